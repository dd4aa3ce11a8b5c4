/-
  Contract of slices.IndexFunc and slices.DeleteFunc at []int with UtfAscii's function (which tells what is 128 or more); conditions: a row of the call's own, at most 1000000000 numbers.
-/
import Derived.Test.YtjnopjjbndknfaaDoorUBackWalk
import Derived.Lib.SliceRun
import Derived.Lib.LazyBuf
namespace Go.Proofs.YtjnopjjbndknfaaDoor.U
open Go.RowKit Go.Lib Go.Proofs.YtjnopjjbndknfaaDoor

set_option maxHeartbeats 400000 in
theorem big_any (c : Int) (w : World) : Calls Tryd.prog 29 #[.int .i64 c] w fun e w' => e = .returned (.bool (decide (128 ≤ c))) ∧ w = w' := by
  go_enter Tryd.func29, Tryd.ntmps29
  go_wp2
  go_ret
  exact ⟨rfl, rfl⟩

def bigF : Value := .func (.func 29) #[] #[]

set_option maxHeartbeats 4000000 in
set_option maxRecDepth 100000 in
theorem IndexFunc_some (l : List Int) (b cap : Nat) (w : World) (hcl : ∀ j (h : j < l.length), w.cell? ⟨b, j, none⟩ = some (.int .i64 l[j])) (hl : l.length ≤ 1000000000) :
    Calls Tryd.prog 48 #[.slice (some ⟨b, 0, none⟩) l.length cap, .func (.func 29) #[] #[]] w fun e w' => (e = .returned (.int .i64 (-1)) ∧ (∀ j (h : j < l.length), l[j] < 128) ∨ ∃ k, ∃ h : k < l.length, e = .returned (.int .i64 (k : Int)) ∧ 128 ≤ l[k] ∧ ∀ j (h : j < l.length), j < k → l[j] < 128) ∧ w = w' := by
  have HC := Hid.mk' hcl
  clear hcl
  go_enter Tryd.func48, Tryd.ntmps48
  go_wp2_with fail
  go_loopw [8] (fun i wr => ∃ k : Nat, k ≤ l.length ∧ i = .int .i64 (k : Int) ∧ wr = w ∧ Hid (∀ j (h : j < l.length), j < k → l[j] < 128)) (fun i _ => l.length - (RowKit.intOf i).toNat)
  case atStart => exact ⟨0, Nat.zero_le _, rfl, rfl, fun j h h2 => absurd h2 (Nat.not_lt_zero _)⟩
  case round =>
    obtain ⟨k, hk, rfl, hwr, hlow⟩ := hrel
    subst hwr
    by_cases hlt : k < l.length
    · have hck := HC.out k hlt
      have HBG := Hid.mk' (big_any l[k] wr)
      by_cases hb : 128 ≤ l[k]
      · rw [decide_eq_true hb] at HBG
        have HFIN : Hid (∃ k', ∃ h : k' < l.length, Ending.returned (.int .i64 (k : Int)) = .returned (.int .i64 (k' : Int)) ∧ 128 ≤ l[k'] ∧ ∀ j (h : j < l.length), j < k' → l[j] < 128) := ⟨k, hlt, rfl, hb, hlow⟩
        clear hb hlow
        generalize l[k] = ck at *
        go_wp2_with fail
        refine HBG.out.mono ?_
        rintro e w4 ⟨rfl, rfl⟩
        go_wp2
        go_ret
        exact ⟨.inr HFIN.out, rfl⟩
      · rw [decide_eq_false hb] at HBG
        have HL2 : Hid (∀ j (h : j < l.length), j < k + 1 → l[j] < 128) := fun j h h2 => by
          rcases (by omega : j < k ∨ j = k) with h3 | rfl
          · exact hlow j h h3
          · omega
        clear hb hlow
        generalize l[k] = ck at *
        go_wp2_with fail
        refine HBG.out.mono ?_
        rintro e w4 ⟨rfl, rfl⟩
        go_wp2
        go_roundw
        case rel => exact ⟨k + 1, by omega, by go_num, trivial, HL2.out⟩
        case measure => simp [RowKit.intOf]; omega
    · obtain rfl : k = l.length := by omega
      have HFIN : Hid (∀ j (h : j < l.length), l[j] < 128) := fun j h => hlow j h h
      clear hlow
      go_wp2
      go_ret
      exact ⟨.inl ⟨rfl, HFIN.out⟩, rfl⟩

theorem own_cells {w : World} {base g n cap : Nat} {l : List Int} (h : OwnR w base 3 1 (.slice (some ⟨g, 0, none⟩) n cap) n (icells l)) : ∀ j (h : j < l.length), w.cell? ⟨g, j, none⟩ = some (.int .i64 l[j]) := fun j hj => by
  have := h.cells (g := g) rfl j (.int .i64 l[j]) (by simp [icells, hj])
  have hadd : (⟨g, 0, none⟩ : Addr).add j = ⟨g, j, none⟩ := by unfold Addr.add; split <;> simp_all
  rw [hadd] at this
  exact this

def lowF (l : List Int) : List Int := l.filter fun c => decide (c < 128)

def DState (w : World) (B : Nat) (v : Value) (l : List Int) (si sj : Value) (wr : World) : Prop :=
  ∃ (i j : Nat) (xs : List Int), i < j ∧ j ≤ l.length ∧ xs.length = l.length ∧ si = .int .i64 (i : Int) ∧ sj = .int .i64 (j : Int) ∧ xs.take i = lowF (l.take j) ∧ xs.drop j = l.drop j ∧ OwnR wr B 3 1 v l.length (icells xs) ∧ Below B w wr

theorem lowF_snoc (l : List Int) (j : Nat) (h : j < l.length) : lowF (l.take (j + 1)) = lowF (l.take j) ++ (if l[j] < 128 then [l[j]] else []) := by
  unfold lowF
  rw [List.take_succ_eq_append_getElem h, List.filter_append]
  by_cases hb : l[j] < 128
  · simp [hb]
  · simp [hb]

set_option maxHeartbeats 8000000 in
set_option maxRecDepth 100000 in
theorem DeleteFunc_some (l : List Int) (g cap : Nat) (w : World) (B : Nat) (ho : OwnR w B 3 1 (.slice (some ⟨g, 0, none⟩) l.length cap) l.length (icells l)) (hl : l.length ≤ 1000000000) :
    Calls Tryd.prog 28 #[.slice (some ⟨g, 0, none⟩) l.length cap, .func (.func 29) #[] #[]] w fun e w' => ∃ v, e = .returned v ∧ RdI w' v (lowF l) ∧ Below B w w' := by
  have HIX := Hid.mk' (IndexFunc_some l g cap w (own_cells ho) hl)
  have HO0 := Hid.mk' ho
  have hcap : l.length ≤ cap := by
    rcases ho.form with ⟨e, _⟩ | ⟨g', cap', e, _, _, hc⟩
    · simp at e
    · simp at e; omega
  have hcm : cap ≤ maxLen := by
    rcases ho.2 with ⟨e, _⟩ | ⟨g', cap', cur, fz, e, _, _, _, _, hc, _⟩
    · simp at e
    · simp at e; omega
  unfold maxLen at hcm
  clear ho
  go_enter Tryd.func28, Tryd.ntmps28
  go_wp2_with fail
  refine HIX.out.mono ?_
  rintro e w1 ⟨hcase, rfl⟩
  rcases hcase with ⟨rfl, hall⟩ | ⟨k, hkl, rfl, hkb, hlow⟩
  · have HRD : Hid (RdI w (.slice (some ⟨g, 0, none⟩) l.length cap) (lowF l)) := by
      have e : lowF l = l := by
        unfold lowF
        rw [List.filter_eq_self]
        intro c hc
        obtain ⟨j, hj, rfl⟩ := List.getElem_of_mem hc
        exact decide_eq_true (hall j hj)
      rw [e]
      exact RdI.own HO0.out
    clear hall
    go_wp2
    go_ret
    exact ⟨_, rfl, HRD.out, Below.refl _ _⟩
  · have HS : Hid (DState w B (.slice (some ⟨g, 0, none⟩) l.length cap) l (.int .i64 (k : Int)) (.int .i64 ((k : Int) + 1)) w) := ⟨k, k + 1, l, by omega, by omega, rfl, rfl, by simp, by
      rw [lowF_snoc l k hkl, if_neg (by omega), List.append_nil]
      unfold lowF
      symm
      rw [List.filter_eq_self]
      intro c hc
      obtain ⟨j, hj, rfl⟩ := List.getElem_of_mem hc
      rw [List.getElem_take]
      exact decide_eq_true (hlow j _ (by simp at hj; omega)), rfl, HO0.out, Below.refl _ _⟩
    have hk1 : ((k : Int) == -1) = false := by rw [beq_eq_false_iff_ne]; omega
    clear hkb hlow HIX
    go_wp2_with fail
    go_loopw [5, 6] (fun si sj wr => DState w B (.slice (some ⟨g, 0, none⟩) l.length cap) l si sj wr) (fun _ j _ => l.length - (RowKit.intOf j).toNat)
    case atStart => exact HS.out
    case round =>
      obtain ⟨i, j, xs, hij, hjl, hxl, rfl, rfl, htk, hdp, ho, hbl⟩ := hrel
      clear HS
      by_cases hlt : j < l.length
      · have hxj : xs[j]'(by omega) = l[j] := by
          have h1 : (xs.drop j)[0]? = (l.drop j)[0]? := by rw [hdp]
          simp [hlt, hxl] at h1
          exact h1
        have hcj : wr.cell? ⟨g, j, none⟩ = some (.int .i64 l[j]) := by rw [← hxj]; exact own_cells ho j (by omega)
        have HBG := Hid.mk' (big_any l[j] wr)
        have hsn := lowF_snoc l j hlt
        have hd2 : xs.drop (j + 1) = l.drop (j + 1) := by
          have := congrArg (List.drop 1) hdp
          simpa [List.drop_drop, Nat.add_comm] using this
        by_cases hb : 128 ≤ l[j]
        · rw [decide_eq_true hb] at HBG
          rw [if_neg (by omega), List.append_nil] at hsn
          have HREL : Hid (DState w B (.slice (some ⟨g, 0, none⟩) l.length cap) l (.int .i64 (i : Int)) (.int .i64 ((j + 1 : Nat) : Int)) wr) := ⟨i, j + 1, xs, by omega, by omega, hxl, rfl, rfl, by rw [hsn]; exact htk, hd2, ho, hbl⟩
          clear hb hsn hd2 ho hbl htk hdp hxj
          generalize l[j] = cj at *
          go_wp2_with fail
          refine HBG.out.mono ?_
          rintro e w4 ⟨rfl, rfl⟩
          go_wp2
          go_roundw
          case rel =>
            have := HREL.out
            simpa using this
          case measure => simp [RowKit.intOf]; omega
        · rw [decide_eq_false hb] at HBG
          rw [if_pos (by omega)] at hsn
          obtain ⟨hset, hbg, ⟨x, hx1, _⟩, hfr⟩ := own_set ho i (by omega) (.int .i64 l[j])
          have hst : (icells xs).set i (.int .i64 l[j]) = icells (xs.set i l[j]) := by simp [icells, List.map_set]
          rw [hst] at hset
          have HREL : Hid (DState w B (.slice (some ⟨g, 0, none⟩) l.length cap) l (.int .i64 ((i + 1 : Nat) : Int)) (.int .i64 ((j + 1 : Nat) : Int)) (wr.setCell ⟨g, i, none⟩ (.int .i64 l[j]))) := ⟨i + 1, j + 1, xs.set i l[j], by omega, by omega, by simpa using hxl, rfl, rfl, by
            rw [hsn, ← htk]
            have hi : i < (xs.set i l[j]).length := by simp; omega
            rw [List.take_succ_eq_append_getElem hi, List.take_set, List.set_eq_of_length_le (by simp; omega), List.getElem_set_self], by
            rw [List.drop_set_of_lt (by omega), hd2], hset, hbl.setCell hbg _⟩
          have hci := hx1
          have hil : (i : Int) < (l.length : Int) := by omega
          clear hb hsn hd2 ho hbl htk hdp hxj hset hst
          generalize l[j] = cj at *
          go_wp2_with fail
          refine HBG.out.mono ?_
          rintro e w4 ⟨rfl, rfl⟩
          go_wp2
          go_roundw
          case rel =>
            have := HREL.out
            simpa using this
          case measure => simp [RowKit.intOf]; omega
      · obtain rfl : j = l.length := by omega
        rw [List.take_length] at htk
        have hlen : (lowF l).length = i := by rw [← htk]; simp; omega
        have hcl : ∀ ty, (Builtin.clear_ #[38] ty #[.slice (some ⟨g, i, none⟩) (l.length - i) (cap - i)]).run Tryd.prog wr = .ok (.tuple #[]) (wr.setCells g i (List.replicate (l.length - i) (.int .i64 0))) := fun ty =>
          run_clear_slice wr 38 3 ty (.int .i64 0) Tryd.underlying38 Tryd.zeroValue3 rfl rfl g i (l.length - i) (cap - i) (by omega)
            (fun j hj => by rw [own_cells ho (i + j) (by omega)]; rfl) (fun j hj => (own_set ho (i + j) (by omega) (.int .i64 0)).2.2.2)
        have hgB := (own_set ho i (by omega) (.int .i64 0)).2.1
        have HRD : Hid (RdI (wr.setCells g i (List.replicate (l.length - i) (.int .i64 0))) (.slice (some ⟨g, 0, none⟩) i cap) (lowF l)) := by
          refine ⟨_, cap, by rw [hlen], by omega, .inr ⟨g, 0, rfl, fun j hj => ?_, ?_⟩⟩
          · rw [World.cell?_setCells_out g _ _ _ _ (fun _ _ => .inl (by simp; omega)), Nat.zero_add, own_cells ho j (by omega)]
            have : (lowF l)[j]? = xs[j]? := by rw [← htk, List.getElem?_take, if_pos (by omega)]
            rw [List.getElem?_eq_getElem hj, List.getElem?_eq_getElem (by omega)] at this
            rw [Option.some.inj this]
          · have h1 := World.block_lt_of_cell? _ _ (own_cells ho 0 (by omega))
            have h2 := (below_setCells (Nat.zero_le g) (List.replicate (l.length - i) (.int .i64 0)) i wr (Below.refl 0 wr)).size
            simp only at h1
            omega
        have HBF : Hid (Below B w (wr.setCells g i (List.replicate (l.length - i) (.int .i64 0)))) := below_setCells hgB _ _ _ hbl
        have hil : (i : Int) ≤ (l.length : Int) := by omega
        have hic : (i : Int) ≤ (cap : Int) := by omega
        clear ho hbl htk hdp
        go_wp2
        go_ret
        exact ⟨_, rfl, HRD.out, HBF.out⟩
end Go.Proofs.YtjnopjjbndknfaaDoor.U
