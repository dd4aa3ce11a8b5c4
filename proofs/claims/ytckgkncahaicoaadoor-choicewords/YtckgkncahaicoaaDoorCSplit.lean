/-
  Contracts of strings.Count, genSplit and Split at a text of one byte, and of slices.Equal at []string where both read the same; condition: a text of at most 1000 bytes that is split, at most 2^44 strings.
-/
import Derived.Test.YtckgkncahaicoaaDoorCAns
import Derived.Laws.MakeOwn
namespace Go.Proofs.YtckgkncahaicoaaDoor.C
open Go.RowKit Go.Lib Go.Proofs.YtckgkncahaicoaaDoor Go.Proofs.YtckgkncahaicoaaDoor.W Go.Proofs.YtckgkncahaicoaaDoor.Q

set_option maxHeartbeats 1000000 in
set_option maxRecDepth 100000 in
theorem Count_one (s : ByteArray) (c : UInt8) (w : World) :
    Calls Tryd.prog 24 #[.string s, .string ⟨#[c]⟩] w fun e w' => e = .returned (.int .i64 (Lib.countByte s.data.toList c)) ∧ w' = w := by
  go_enter Tryd.func24, Tryd.ntmps24
  go_wp2
  rw [run_callFunc_extern Tryd.func35 (by kernel_rfl) (by kernel_rfl) (by kernel_rfl) (e := Extern.BytealgCount.count) (by kernel_rfl), Lib.run_countString]
  simp only [Result.andThen]
  rw [Oper.upon_value]
  go_wp2
  go_ret
  exact ⟨rfl, rfl⟩

theorem pieces_count (c : UInt8) (s : List UInt8) : (pieces c s).length = s.count c + 1 := by
  induction s with
  | nil => rfl
  | cons x s ih =>
    rw [pieces, List.count_cons]
    by_cases h : x = c
    · rw [if_pos h, List.length_cons, ih, h]; simp
    · have e : (x == c) = false := beq_false_of_ne h
      rw [if_neg h, e]
      cases hp : pieces c s with
      | nil => exact absurd hp (pieces_ne c s)
      | cons p r => rw [hp] at ih; simpa using ih
theorem count_cut {c : UInt8} {a b : List UInt8} (h : c ∉ a) : (a ++ c :: b).count c = b.count c + 1 := by
  rw [List.count_append, List.count_cons, List.count_eq_zero_of_not_mem h]
  simp
theorem take_set (l : List Value) (k : Nat) (v : Value) (h : k < l.length) : (l.set k v).take (k + 1) = l.take k ++ [v] := by
  have e : (l.set k v).take k = l.take k := by
    apply List.ext_getElem?
    intro i
    by_cases hi : i < k
    · simp [hi, show k ≠ i by omega]
    · simp [List.getElem?_take, hi]
  rw [List.take_succ_eq_append_getElem (by simpa using h), e]
  simp

def GS (w : World) (c : UInt8) (P : List (List UInt8)) (N : Nat) (g : Nat) (s0 s10 : Value) (wr : World) : Prop :=
  ∃ (rest : List UInt8) (pre : List (List UInt8)) (arr : List Value), s0 = .string (bs rest) ∧ s10 = .int .i64 (pre.length : Int) ∧ Hid (P = pre ++ pieces c rest) ∧ pre.length + rest.count c = N ∧ Hid (Box wr w.heap.size 9 arr) ∧ arr.length = N + 1 ∧
    Hid (arr.take pre.length = scells (pre.map bs)) ∧ Hid (Below w.heap.size w wr) ∧ rest.length ≤ 1000 ∧ pre.length + g = N

set_option maxHeartbeats 8000000 in
set_option maxRecDepth 100000 in
theorem genSplit_one (t : List UInt8) (c : UInt8) (w : World) (ht : t.length ≤ 1000) :
    Calls Tryd.prog 17 #[.string (bs t), .string ⟨#[c]⟩, .int .i64 0, .int .i64 (-1)] w fun e w' => ∃ v, e = .returned v ∧ RdS w' v ((pieces c t).map bs) ∧ Below w.heap.size w w' := by
  have HC := Hid.mk' (Count_one (bs t) c)
  rw [data_bs] at HC
  simp only [Lib.countByte] at HC
  have HX : Hid (∀ (x : List UInt8) W, Calls Tryd.prog 13 #[.string (bs x), .string ⟨#[c]⟩] W fun e w' => e = .returned (.int .i64 (Lib.indexByte x c)) ∧ w' = W) := fun x W => by
    have := Index_one (bs x) c W
    rw [data_bs] at this
    exact this
  have hcl := List.count_le_length (a := c) (l := t)
  obtain ⟨i0, hi, hz0, hz1, hz2⟩ := info_parts infoString
  have hmk := run_makeSlice w 22 9 i0 (.string ⟨#[]⟩) Tryd.underlying22 hi hz0 .i64 .i64 ((t.count c + 1 : Nat) : Int) ((t.count c + 1 : Nat) : Int) (by omega) (by omega) (by rw [hz1]; simp; omega) (by rw [hz2]; simp; omega) (by omega)
  rw [hz1] at hmk
  simp only [Int.toNat_natCast, Nat.mul_one] at hmk
  have HS : Hid (GS w c (pieces c t) (t.count c) (t.count c) (.string (bs t)) (.int .i64 0) (w.alloc (.cells (madeCells (Value.string ⟨#[]⟩).cells (t.count c + 1)) 9))) :=
    ⟨t, [], (madeCells (Value.string ⟨#[]⟩).cells (t.count c + 1)).toList, rfl, rfl, rfl, by simp, (by have := Box.new w 9 (madeCells (Value.string ⟨#[]⟩).cells (t.count c + 1)).toList; rwa [Array.toArray_toList] at this), by simpa using size_madeCells _ _, by simp [scells, Hid], (Below.refl _ _).alloc (Nat.le_refl _) _, ht, by simp⟩
  generalize madeCells (Value.string ⟨#[]⟩).cells (t.count c + 1) = arr0 at *
  have hsz : (bs t).size = t.length := bs_size t
  have hT : (⟨#[c]⟩ : ByteArray).size = 1 := rfl
  have hTe : (⟨#[c]⟩ : ByteArray).toList.isEmpty = false := by rw [ByteArray.toList_eq]; rfl
  generalize hP : pieces c t = P at *
  have HPL : Hid (P.length = t.count c + 1) := by rw [← hP]; exact pieces_count c t
  generalize hN : t.count c = N at *
  clear hN hP
  rw [show ((N + 1 : Nat) : Int) = (N : Int) + 1 by omega] at hmk
  have hmn : min (N : Int) (t.length : Int) = (N : Int) := by omega
  generalize bs t = S0 at *
  generalize (⟨#[c]⟩ : ByteArray) = T at *
  go_enter Tryd.func17, Tryd.ntmps17
  go_wp2_with fail
  refine (HC.out _).mono ?_
  rintro e w1 ⟨rfl, rfl⟩
  go_wp2_with fail
  clear hmk HC hsz hmn
  go_loopg [0, 10] N (fun g s0 s10 wr => GS w1 c P N g s0 s10 wr)
  case atStart => exact HS.out
  case round =>
    obtain ⟨rest, pre, arr, rfl, rfl, HP, hct, HX1, hal, HT, HB, hrl, hg⟩ := hrel
    clear HS
    by_cases hlt : pre.length < N
    · rcases cut_at c rest with ⟨h1, _⟩ | ⟨a, b, h1, h2, h3⟩
      · have := List.count_eq_zero_of_not_mem h1
        omega
      have H1 := Hid.mk' (HX.out rest wr)
      rw [h3] at H1
      subst h1
      have hcc := count_cut (b := b) h2
      have e1 : (bs (a ++ c :: b)).extract 0 a.length = bs a := by rw [bs_take, List.take_left]
      have hsz : (bs (a ++ c :: b)).size = a.length + (b.length + 1) := by rw [bs_size]; simp
      have e2 : (bs (a ++ c :: b)).extract (a.length + 1) (a.length + (b.length + 1)) = bs b := by rw [← hsz, bs_drop, List.drop_append, List.drop_eq_nil_of_le (by omega)]; simp
      have c1 : ∃ x, wr.cell? ⟨w1.heap.size, pre.length, none⟩ = some x := ⟨_, HX1.out.cell (List.getElem?_eq_getElem (show pre.length < arr.length by omega))⟩
      have c2 := HX1.out.frozen
      obtain ⟨x, c1⟩ := c1
      have hln : a.length + (b.length + 1) ≤ 1000 := by simpa using hrl
      have HR : Hid (GS w1 c P N (N - (pre.length + 1)) (.string (bs b)) (.int .i64 ((pre ++ [a]).length : Int)) (wr.setCell ⟨w1.heap.size, pre.length, none⟩ (.string (bs a)))) := by
        refine ⟨b, pre ++ [a], arr.set pre.length (.string (bs a)), rfl, rfl, ?_, by simp; omega, HX1.out.setCell _ _, by simpa using hal, ?_, HB.out.setCell (by simp) _, by omega, by simp; omega⟩
        · show _ = _
          rw [HP.out, pieces_cut c b a h2]; simp
        · show _ = _
          rw [List.length_append, List.length_singleton, take_set _ _ _ (by omega), HT.out]
          simp [scells]
      rw [show ((pre ++ [a]).length : Int) = (pre.length : Int) + 1 by simp] at HR
      clear HP HX1 HT HX h2 h3 hcc hct hrl
      generalize bs (a ++ c :: b) = S at *
      generalize bs a = A at *
      generalize bs b = B at *
      generalize a.length = n at *
      go_wp2_with fail
      refine H1.out.mono ?_
      rintro e w2 ⟨rfl, rfl⟩
      go_wp2
      go_roundg (N - (pre.length + 1))
      case measure => omega
      case rel => exact HR.out
    · have h0 : rest.count c = 0 := by omega
      have h1 : c ∉ rest := List.count_eq_zero.1 h0
      obtain rfl : pre.length = N := by omega
      have c1 : ∃ x, wr.cell? ⟨w1.heap.size, pre.length, none⟩ = some x := ⟨_, HX1.out.cell (List.getElem?_eq_getElem (show pre.length < arr.length by omega))⟩
      have c2 := HX1.out.frozen
      obtain ⟨x, c1⟩ := c1
      have HR : Hid (RdS (wr.setCell ⟨w1.heap.size, pre.length, none⟩ (.string (bs rest))) (.slice (some ⟨w1.heap.size, 0, none⟩) (pre.length + 1) (pre.length + 1)) (P.map bs)) := by
        have hb := HX1.out.setCell pre.length (.string (bs rest))
        have ha : arr.set pre.length (.string (bs rest)) = scells (P.map bs) := by
          have := take_set arr pre.length (.string (bs rest)) (by omega)
          rw [List.take_of_length_le (by simp; omega), HT.out] at this
          rw [this, HP.out, pieces_one c rest h1]
          simp [scells]
        rw [ha] at hb
        have hl : (P.map bs).length = pre.length + 1 := by
          rw [HP.out, pieces_one c rest h1]; simp
        have := RdS.box hb (pre.length + 1) (by omega)
        rw [hl] at this
        exact this
      have HB2 : Hid (Below w1.heap.size w1 (wr.setCell ⟨w1.heap.size, pre.length, none⟩ (.string (bs rest)))) := HB.out.setCell (by simp) _
      have hpl : pre.length ≤ 1000 := by omega
      clear HP HX1 HT HX HB h1 h0 hct HPL hcl
      generalize bs rest = S at *
      generalize pre.length = N at *
      go_wp2
      go_ret
      exact ⟨_, rfl, HR.out, HB2.out⟩

set_option maxHeartbeats 1000000 in
theorem Split_one (t : List UInt8) (c : UInt8) (w : World) (ht : t.length ≤ 1000) :
    Calls Tryd.prog 9 #[.string (bs t), .string ⟨#[c]⟩] w fun e w' => ∃ v, e = .returned v ∧ RdS w' v ((pieces c t).map bs) ∧ Below w.heap.size w w' := by
  have H1 := Hid.mk' (genSplit_one t c w ht)
  generalize (pieces c t).map bs = L at *
  generalize bs t = S0 at *
  generalize (⟨#[c]⟩ : ByteArray) = T at *
  go_enter Tryd.func9, Tryd.ntmps9
  go_wp2_with fail
  refine H1.out.mono ?_
  rintro e w1 ⟨v, rfl, hv, hb⟩
  have HV := Hid.mk' hv
  have HB := Hid.mk' hb
  clear hv hb
  go_wp2
  go_ret
  exact ⟨_, rfl, HV.out, HB.out⟩

set_option maxHeartbeats 4000000 in
theorem Equal_same (w : World) (v1 v2 : Value) (l : List ByteArray) (h1 : RdS w v1 l) (h2 : RdS w v2 l) (hn : l.length ≤ 17592186044416) :
    Calls Tryd.prog 8 #[v1, v2] w fun e w' => e = .returned (.bool true) ∧ ∃ q, w' = w.drewN q := by
  obtain ⟨a1, c1, rfl, hc1, hr1⟩ := h1
  obtain ⟨a2, c2, rfl, hc2, hr2⟩ := h2
  go_enter Tryd.func8, Tryd.ntmps8
  go_wp2_with fail
  go_loopw [13] (fun s13 wr => ∃ k q : Nat, k ≤ l.length ∧ s13 = .int .i64 (k : Int) ∧ wr = w.drewN q) (fun i _ => l.length - (RowKit.intOf i).toNat)
  case atStart => exact ⟨0, 0, Nat.zero_le _, rfl, rfl⟩
  case round =>
    obtain ⟨k, q, hk, rfl, rfl⟩ := hrel
    by_cases hlt : k < l.length
    · rcases hr1 with h0 | ⟨b1, o1, rfl, t1, _⟩
      · subst h0; simp at hlt
      rcases hr2 with h0 | ⟨b2, o2, rfl, t2, _⟩
      · subst h0; simp at hlt
      have e1 := t1 k hlt
      have e2 := t2 k hlt
      have f1 : (w.drewN q).cell? ⟨b1, o1 + k, none⟩ = some (.string l[k]) := by rw [World.cell?_drewN]; exact e1
      have f2 : (w.drewN q).cell? ⟨b2, o2 + k, none⟩ = some (.string l[k]) := by rw [World.cell?_drewN]; exact e2
      clear t1 t2 e1 e2
      generalize l[k] = x at *
      have HD : Hid (∀ n, ∃ q', (w.drewN q).drewN n = w.drewN q') := fun n => ⟨_, World.drewN_drewN w q n⟩
      generalize w.drewN q = W at *
      go_wp2_with fail
      go_quiet (fail)
      go_wp2
      go_roundw
      case rel => obtain ⟨q', e⟩ := HD.out nq; exact ⟨k + 1, q', by omega, by go_num, e⟩
      case measure => simp [RowKit.intOf]; omega
    · obtain rfl : k = l.length := by omega
      clear hr1 hr2
      go_wp2
      go_ret
      exact ⟨rfl, q, rfl⟩
end Go.Proofs.YtckgkncahaicoaaDoor.C
