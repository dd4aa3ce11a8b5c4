/-
  Contracts of strconv.Itoa, args.areNumbers and args.Write; condition: the table internal/strconv.uint64pow10 holds what its initialiser lays.
-/
import Derived.Test.YtneiiinheimglaaGreatDoorJ12
import Derived.Test.YtneiiinheimglaaGreatDoorZShelf
import Derived.Lib.LaidTab
import Derived.Laws.MakeOwn
namespace Go.Proofs.YtneiiinheimglaaGreatDoor.Z
open Go.RowKit Go.Lib Go.Proofs.YtneiiinheimglaaGreatDoor Go.Proofs.YtneiiinheimglaaGreatDoor.W Go.Proofs.YtneiiinheimglaaGreatDoor.Q Go.Proofs.YtneiiinheimglaaGreatDoor.C

def Tab (w : World) : Prop := Lib.TabIs Tryz.prog w "internal/strconv.uint64pow10" .u64 Lib.pow10Tab
theorem tabIs_below {P : Program} {n : String} {g : Nat} {k : IntKind} {zs : List Int} {w w' : World} (hg : P.globalNamed n = some g) (h : Lib.TabIs P w n k zs) (hb : Below w.heap.size w w') : Lib.TabIs P w' n k zs := by
  unfold Lib.TabIs World.var? at h ⊢
  rw [hg] at h ⊢
  simp only [Option.bind_some] at h ⊢
  have hlt : g < w.heap.size := by
    rcases Nat.lt_or_ge g w.heap.size with h' | h'
    · exact h'
    · rw [Array.getElem?_eq_none h'] at h; cases h
  rw [hb.block g hlt]
  exact h
theorem Tab.below {w w' : World} (h : Tab w) (hb : Below w.heap.size w w') : Tab w' := tabIs_below (g := 3) (by kernel_rfl) h hb
theorem below_grow (w : World) (k : Nat) (os : Array Obj) : Below w.heap.size w (Sort.grow (w.drewN k) os) :=
  ⟨rfl, rfl, rfl, by show w.heap.size ≤ (w.heap ++ os).size; rw [Array.size_append]; omega, fun j hj => by
    show (w.heap ++ os)[j]? = _
    rw [Array.getElem?_append_left hj]⟩
theorem itoa_word {n : Int} (h : right n) (h1 : n ≠ -1) : (⟨(Lib.itoa n).toArray⟩ : ByteArray) = bs (word n) := by
  unfold right at h
  unfold bs word Lib.itoa
  rw [if_neg (by omega), if_neg h1]
theorem Itoa_any (n : Int) (w : World) (h : right n) (h1 : n ≠ -1) (hT : Tab w) :
    Calls Tryz.prog 42 #[.int .i64 n] w fun e w' => e = .returned (.string (bs (word n))) ∧ Below w.heap.size w w' := by
  have hr := h
  unfold right at hr
  refine (Tryz.strconv_Itoa n (by omega) (by omega) w hT).mono ?_
  rintro e w' ⟨rfl, k, os, rfl⟩
  exact ⟨by rw [itoa_word h h1], below_grow w k os⟩

theorem okL_no {l : List Int} (k : Nat) (h : k < l.length) (hn : ¬ right l[k]) : okL l = false := by
  cases e : okL l with
  | false => rfl
  | true => exact absurd ((okL_right e).1 _ (List.getElem_mem h)) hn
theorem okL_nil : okL [] = false := rfl

set_option maxHeartbeats 4000000 in
theorem areNumbers_any (v : Value) (l : List Int) (w : World) (h : RdI w v l) (hl : l.length ≤ 4611686018427387904) :
    Calls Tryz.prog 41 #[v] w fun e w' => e = .returned (.bool (okL l)) ∧ w' = w := by
  obtain ⟨a, c, rfl, hc, hr⟩ := h
  have HT : Hid ((∀ x ∈ l, right x) → l ≠ [] → okL l = true) := fun h1 h2 => okL_of h1 h2
  have HF : Hid (∀ k (h : k < l.length), ¬ right l[k] → okL l = false) := fun k h hn => okL_no k h hn
  have HN : Hid (l = [] → okL l = false) := fun h => by rw [h]; rfl
  generalize okL l = R at *
  go_enter Tryz.func41, Tryz.ntmps41
  go_wp2_with fail
  go_loopg [7] l.length (fun g s7 wr => ∃ k : Nat, k ≤ l.length ∧ l.length - k ≤ g ∧ s7 = .int .i64 (k : Int) ∧ Hid (∀ a (_ : a < k) (h : a < l.length), right l[a]) ∧ wr = w)
  case atStart => exact ⟨0, Nat.zero_le _, by omega, rfl, fun a h => absurd h (Nat.not_lt_zero a), rfl⟩
  case round =>
    obtain ⟨k, hk, hg, rfl, HO, rfl⟩ := hrel
    have HG := Hid.mk' hg
    clear hg
    by_cases hlt : k < l.length
    · rcases hr with h0 | ⟨b, off, rfl, ht, _⟩
      · subst h0; simp at hlt
      have c1 := ht k hlt
      by_cases hrt : right l[k]
      · have HO2 : Hid (∀ a (_ : a < k + 1) (h : a < l.length), right l[a]) := fun a ha h => by
          by_cases e : a = k
          · subst e; exact hrt
          · exact HO.out a (by omega) h
        unfold right at hrt
        obtain ⟨e1, e2⟩ := hrt
        have e3 : ¬ l[k] < -1 := by omega
        have e4 : ¬ 16383 < l[k] := by omega
        clear ht HT HF HN HO
        generalize l[k] = x at *
        go_wp2
        go_roundg (l.length - (k + 1))
        case measure => have := HG.out; omega
        case rel => exact ⟨k + 1, by omega, Nat.le_refl _, by go_num, HO2, rfl⟩
      · obtain rfl : R = false := HF.out k hlt hrt
        unfold right at hrt
        have e1 : l[k] < -1 ∨ ¬ l[k] < -1 ∧ 16383 < l[k] := by omega
        clear ht HT HF HN HO hrt
        generalize l[k] = x at *
        rcases e1 with h | ⟨h, h2⟩
        · go_wp2
          go_ret
          exact ⟨rfl, rfl⟩
        · go_wp2
          go_ret
          exact ⟨rfl, rfl⟩
    · obtain rfl : k = l.length := by omega
      by_cases h0 : l = []
      · obtain rfl : R = false := HN.out h0
        subst h0
        clear HT HF HN HO hr
        go_wp2
        go_ret
        exact ⟨rfl, rfl⟩
      · have e : R = true := HT.out (fun x hx => by
          obtain ⟨i, hi, rfl⟩ := List.mem_iff_getElem.1 hx
          exact HO.out i hi hi) h0
        subst e
        have hp : decide (0 < l.length) = true := decide_eq_true (List.length_pos_iff.2 h0)
        clear HT HF HN HO hr
        go_wp2
        go_ret
        exact ⟨rfl, rfl⟩

/-- texts as cells -/
def tcells (l : List (List UInt8)) : List Value := l.map fun x => .string (bs x)
theorem tcells_length (l : List (List UInt8)) : (tcells l).length = l.length := by simp [tcells]
/-- the words of the first k numbers, none for the others -/
def wordsTo (l : List Int) (k : Nat) : List (List UInt8) := (l.take k).map word ++ List.replicate (l.length - k) []
theorem wordsTo_length (l : List Int) (k : Nat) (h : k ≤ l.length) : (wordsTo l k).length = l.length := by
  unfold wordsTo
  simp; omega
theorem wordsTo_zero (l : List Int) : wordsTo l 0 = List.replicate l.length [] := by simp [wordsTo]
theorem wordsTo_all (l : List Int) : wordsTo l l.length = l.map word := by simp [wordsTo]
theorem wordsTo_step (l : List Int) (k : Nat) (h : k < l.length) : wordsTo l (k + 1) = (wordsTo l k).set k (word l[k]) := by
  unfold wordsTo
  have e1 : l.length - k = (l.length - (k + 1)) + 1 := by omega
  have e2 : ((l.take k).map word).length = k := by simp; omega
  rw [List.take_succ_eq_append_getElem h, List.map_append, e1, List.replicate_succ, List.set_append_right _ _ (by omega), e2, Nat.sub_self, List.set_cons_zero, List.map_cons, List.map_nil]
  simp
theorem wordsTo_none (l : List Int) (k : Nat) (h : k < l.length) (h1 : l[k] = -1) : wordsTo l (k + 1) = wordsTo l k := by
  have e1 : l.length - k = (l.length - (k + 1)) + 1 := by omega
  unfold wordsTo
  rw [List.take_succ_eq_append_getElem h, List.map_append, e1, List.replicate_succ, h1]
  simp [word]
theorem tcells_set (l : List (List UInt8)) (k : Nat) (x : List UInt8) : tcells (l.set k x) = (tcells l).set k (.string (bs x)) := by
  unfold tcells
  rw [List.map_set]
theorem infoString : (Tryz.prog.info? 9).map (fun i => (i.zero, i.size, i.bytes)) = some (some (.string ⟨#[]⟩), 1, 16) := by kernel_rfl
theorem made_cells (n : Nat) : madeCells (Value.string ⟨#[]⟩).cells n = (tcells (List.replicate n [])).toArray := by
  apply Array.ext'
  rw [show (Value.string ⟨#[]⟩).cells = #[.string ⟨#[]⟩] from rfl, toList_madeCells_one]
  simp [tcells, bs]

set_option maxHeartbeats 4000000 in
theorem Write_bad (a : Option Addr) (n c : Nat) (l : List Int) (w : World) (h : RdI w (.slice a n c) l) (hl : l.length ≤ 4611686018427387904) (hb : okL l = false ∨ 32 < l.length) :
    Calls Tryz.prog 24 #[.slice a n c] w fun e w' => e = .returned (.tuple #[.string (bs (writeT l).1), .int .i64 (writeT l).2]) ∧ w' = w := by
  have HA := Hid.mk' (areNumbers_any _ l w h hl)
  have hn : n = l.length := by
    obtain ⟨_, _, e1, _, _⟩ := h
    simp only [Value.slice.injEq] at e1
    exact e1.2.1
  clear h
  have HN := Hid.mk' hn
  clear hn
  cases hk : okL l with
  | false =>
    have e : writeT l = ([], 1) := by unfold writeT; rw [hk, if_neg (by decide)]
    rw [hk] at HA
    rw [e]
    go_enter Tryz.func24, Tryz.ntmps24
    go_wp2_with fail
    refine HA.out.mono ?_
    rintro e w1 ⟨rfl, rfl⟩
    go_wp2
    go_ret2
    exact ⟨rfl, rfl⟩
  | true =>
    have h32 : 32 < l.length := by
      rcases hb with h | h
      · rw [hk] at h; cases h
      · exact h
    have e : writeT l = ([], 2) := by unfold writeT; rw [hk, if_pos rfl, if_pos h32]
    rw [hk] at HA
    rw [e]
    have h1 : (32 : Int) < (n : Int) := by have := HN.out; omega
    go_enter Tryz.func24, Tryz.ntmps24
    go_wp2_with fail
    refine HA.out.mono ?_
    rintro e w1 ⟨rfl, rfl⟩
    go_wp2
    go_ret2
    exact ⟨rfl, rfl⟩

def WS (w : World) (l : List Int) (g : Nat) (s18 : Value) (wr : World) : Prop :=
  ∃ k : Nat, k ≤ l.length ∧ l.length - k ≤ g ∧ s18 = .int .i64 (k : Int) ∧ Hid (Box wr w.heap.size 9 (tcells (wordsTo l k))) ∧ Hid (Below w.heap.size w wr)

set_option maxRecDepth 100000 in
set_option maxHeartbeats 8000000 in
theorem Write_ok (b off c : Nat) (l : List Int) (w : World) (hT : Tab w) (ht : ∀ j (h : j < l.length), w.cell? ⟨b, off + j, none⟩ = some (.int .i64 l[j])) (hbl : b < w.heap.size) (hc : l.length ≤ c) (hk : okL l = true) (h32 : l.length ≤ 32) :
    Calls Tryz.prog 24 #[.slice (some ⟨b, off, none⟩) l.length c] w fun e w' => e = .returned (.tuple #[.string (bs (text l)), .int .i64 0]) ∧ Below w.heap.size w w' := by
  have HA := Hid.mk' (areNumbers_any _ l w ⟨_, _, rfl, hc, .inr ⟨b, off, rfl, ht, hbl⟩⟩ (by omega))
  rw [hk] at HA
  obtain ⟨hr, h0⟩ := okL_right hk
  have HI : Hid (∀ W n, Below w.heap.size w W → right n → n ≠ -1 → Calls Tryz.prog 42 #[.int .i64 n] W fun e w' => e = .returned (.string (bs (word n))) ∧ Below W.heap.size W w') := fun W n hW h1 h2 => Itoa_any n W h1 h2 (hT.below hW)
  have HC := Hid.mk' ht
  have HR := Hid.mk' hr
  obtain ⟨i0, hi, hz0, hz1, hz2⟩ := info_parts infoString
  have hmk := run_makeSlice w 62 9 i0 (.string ⟨#[]⟩) Tryz.underlying62 hi hz0 .i64 .i64 (l.length : Int) (l.length : Int) (by omega) (by omega) (by rw [hz1]; simp; omega) (by rw [hz2]; simp; omega) (by omega)
  rw [hz1] at hmk
  simp only [Int.toNat_natCast, Nat.mul_one] at hmk
  rw [made_cells] at hmk
  have HS : Hid (WS w l l.length (.int .i64 0) (w.alloc (.cells (tcells (List.replicate l.length [])).toArray 9))) :=
    ⟨0, Nat.zero_le _, by omega, rfl, by rw [wordsTo_zero]; exact Box.new w _ _, (Below.refl _ _).alloc (Nat.le_refl _) _⟩
  have HTL := Hid.mk' (text_length l hr)
  have h32' : ¬ (32 : Int) < (l.length : Int) := by omega
  generalize (tcells (List.replicate l.length [])).toArray = A0 at *
  clear hr hk hT ht hi hz0 hz1 hz2
  go_enter Tryz.func24, Tryz.ntmps24
  go_wp2_with fail
  refine HA.out.mono ?_
  rintro e w1 ⟨rfl, rfl⟩
  go_wp2_with fail
  clear hmk HA
  go_loopg [18] l.length (fun g s18 wr => WS w1 l g s18 wr)
  case atStart => exact HS.out
  case round =>
    obtain ⟨k, hk, hg, rfl, HX, HW⟩ := hrel
    have HG := Hid.mk' hg
    clear hg HS
    by_cases hlt : k < l.length
    · have c1 : wr.cell? ⟨b, off + k, none⟩ = some (.int .i64 l[k]) := (HW.out.cell (p := ⟨b, off + k, none⟩) hbl).trans (HC.out k hlt)
      by_cases h1 : l[k] = -1
      · have HN : Hid (WS w1 l (l.length - (k + 1)) (.int .i64 ((k : Int) + 1)) wr) := ⟨k + 1, by omega, Nat.le_refl _, by simp, by rw [wordsTo_none l k hlt h1]; exact HX, HW⟩
        rw [h1] at c1
        clear HX HW HI HC HR h1
        go_wp2
        go_roundg (l.length - (k + 1))
        case measure => have := HG.out; omega
        case rel => exact HN.out
      · have HK := Hid.mk' (HI.out wr l[k] HW.out (HR.out _ (List.getElem_mem hlt)) h1)
        have HWS := wordsTo_step l k hlt
        have HN : Hid (∀ w2, Box w2 w1.heap.size 9 (tcells (wordsTo l k)) → Below w1.heap.size w1 w2 → WS w1 l (l.length - (k + 1)) (.int .i64 ((k : Int) + 1)) (w2.setCell ⟨w1.heap.size, k, none⟩ (.string (bs (word l[k]))))) := fun w2 a1 a2 =>
          ⟨k + 1, by omega, Nat.le_refl _, by simp, by rw [HWS, tcells_set]; exact a1.setCell k _, a2.setCell (by simp) _⟩
        have h2 : (l[k] != -1) = true := bne_iff_ne.2 h1
        have hlen : (tcells (wordsTo l k)).length = l.length := by rw [tcells_length, wordsTo_length l k hk]
        clear HWS HC HR h1 HI
        generalize bs (word l[k]) = T at *
        generalize l[k] = x at *
        generalize tcells (wordsTo l k) = X at *
        go_wp2_with fail
        refine HK.out.mono ?_
        rintro e w2 ⟨rfl, b2⟩
        have hx2 := HX.out.later b2
        have c2 : w2.cell? ⟨w1.heap.size, k, none⟩ = some (X[k]'(by omega)) := hx2.cell (List.getElem?_eq_getElem (by omega))
        have f2 := hx2.frozen k
        have HN2 := Hid.mk' (HN.out w2 hx2 (HW.out.trans (Below.mono b2 HW.out.size)))
        clear hx2 b2 HN HX HW HK c1
        generalize X[k]'(by omega) = y at *
        go_wp2
        go_roundg (l.length - (k + 1))
        case measure => have := HG.out; omega
        case rel => exact HN2.out
    · obtain rfl : k = l.length := by omega
      rw [wordsTo_all] at HX
      have HJ : Hid (Calls Tryz.prog 43 #[.slice (some ⟨w1.heap.size, 0, none⟩) l.length l.length, .string ⟨#[59]⟩] wr fun e w' => e = .returned (.string (bs (text l))) ∧ Below wr.heap.size wr w') := by
        have hm : ((l.map word).map bs).map (fun x : ByteArray => x.data.toList) = l.map word := by
          rw [List.map_map]; exact List.map_id'' (fun x => rfl) _
        have hj := Tryz.strings_Join w1.heap.size 0 l.length ((l.map word).map bs) ⟨#[59]⟩ wr (fun j x hx => by
          rw [Nat.zero_add]
          refine HX.out.cell ?_
          unfold tcells
          rw [List.getElem?_map] at hx ⊢
          cases hq : (l.map word)[j]? with
          | none => rw [hq] at hx; cases hx
          | some z => rw [hq] at hx; simp only [Option.map_some, Option.some.injEq] at hx ⊢; rw [hx]) HX.out.lt (by simp; omega) (by simp) (by
            rw [hm]
            have := HTL.out
            unfold text at this
            show (Lib.join (l.map word) [59]).length ≤ _
            omega)
        rw [hm] at hj
        simp only [List.length_map] at hj
        exact hj
      clear HX HC HI HR
      go_wp2_with fail
      refine HJ.out.mono ?_
      rintro e w2 ⟨rfl, b2⟩
      have HB := Hid.mk' (HW.out.trans (Below.mono b2 HW.out.size))
      clear b2
      go_wp2
      go_ret2
      exact ⟨rfl, HB.out⟩

theorem Write_any (v : Value) (l : List Int) (w : World) (h : RdI w v l) (hT : Tab w) (hl : l.length ≤ 4611686018427387904) :
    Calls Tryz.prog 24 #[v] w fun e w' => e = .returned (.tuple #[.string (bs (writeT l).1), .int .i64 (writeT l).2]) ∧ Below w.heap.size w w' := by
  by_cases hb : okL l = false ∨ 32 < l.length
  · obtain ⟨a, c, e, h1⟩ := id h
    subst e
    exact (Write_bad a _ c l w h hl hb).mono fun e w' h => ⟨h.1, h.2 ▸ Below.refl _ _⟩
  · have hk : okL l = true := by cases h : okL l with
      | true => rfl
      | false => exact absurd (.inl h) hb
    have h32 : l.length ≤ 32 := by
      rcases Nat.lt_or_ge 32 l.length with h | h
      · exact absurd (.inr h) hb
      · exact h
    have e : writeT l = (text l, 0) := by unfold writeT; rw [hk, if_pos rfl, if_neg (by omega)]
    rw [e]
    obtain ⟨a, c, rfl, hc, hr⟩ := h
    rcases hr with h0 | ⟨b, off, rfl, ht, hbl⟩
    · exact absurd h0 (okL_right hk).2
    · exact Write_ok b off c l w hT ht hbl hc hk h32
end Go.Proofs.YtneiiinheimglaaGreatDoor.Z
