/-
  The walk of farkeep.ChoiceWords: it returns true; condition: at most 2^44 names.
-/
import Derived.Test.YtckgkncahaicoaaDoorCSplit
import Derived.Test.YtckgkncahaicoaaDoorCLives
import Derived.Deep.RegionHeld3
namespace Go.Proofs.YtckgkncahaicoaaDoor.C
open Go.RowKit Go.Lib Go.Proofs.YtckgkncahaicoaaDoor Go.Proofs.YtckgkncahaicoaaDoor.W Go.Proofs.YtckgkncahaicoaaDoor.Q

theorem ask_cases (l : List ByteArray) : ((askT l).2 = 1 ∨ (askT l).2 = 4 ∨ (askT l).2 = 5) ∨ (∃ c, (1 ≤ l.length ∧ l.length ≤ 8) ∧ namesOk l = true ∧ free l = some c ∧ askT l = (bs (1 :: c :: Lib.join (l.map fun x => x.data.toList) [c]), 0)) := by
  by_cases h : 1 ≤ l.length ∧ l.length ≤ 8
  · cases ho : namesOk l with
    | false => left; rw [askT_form h ho]; exact .inr (.inl rfl)
    | true =>
      cases hf : free l with
      | none => left; rw [askT_full h ho hf]; exact .inr (.inr rfl)
      | some c => right; exact ⟨c, h, rfl, rfl, askT_ok h ho hf⟩
  · left; rw [askT_arg h]; exact .inl rfl
theorem map_bs_data (l : List ByteArray) : (l.map fun x => x.data.toList).map bs = l := by
  rw [List.map_map]
  conv => rhs; rw [← List.map_id l]
  apply List.map_congr_left
  intro x _
  exact bs_data x
theorem chainB {A W W' : World} {B : Nat} (h : Below B A W) (h0 : B ≤ A.heap.size) (hb : Below W.heap.size W W') : Below B A W' := h.trans (hb.mono (Nat.le_trans h0 h.size))

set_option maxHeartbeats 4000000 in
set_option maxRecDepth 100000 in
theorem Words_err (v : Value) (l : List ByteArray) (w : World) (hv : RdS w v l) (hn : l.length ≤ 17592186044416) (he : (askT l).2 = 1 ∨ (askT l).2 = 4 ∨ (askT l).2 = 5) :
    Calls Tryd.prog 3 #[v] w fun e w' => e = .returned (.bool true) ∧ Below w.heap.size w w' := by
  have H1 := Hid.mk' (Ask_any w v l hv hn)
  have HL := Hid.mk' lives_any
  obtain ⟨a1, c1, rfl, _, _⟩ := hv
  generalize askT l = R at *
  obtain ⟨r1, r2⟩ := R
  simp only at he
  dsimp only at H1
  rcases he with rfl | rfl | rfl
  all_goals (
    go_enter Tryd.func3, Tryd.ntmps3
    go_wp2_with fail
    refine H1.out.mono ?_
    rintro e w1 ⟨rfl, hb1⟩
    have HB1 := Hid.mk' hb1
    have hs1 := hb1.size
    clear hb1 H1
    go_wp2_with fail
    refine (HL.out w1).mono ?_
    rintro e w2 ⟨rfl, hb2⟩
    have HB2 : Hid (Below w.heap.size w w2) := HB1.out.trans (hb2.mono hs1)
    have hs2 := HB2.out.size
    clear hb2
    go_wp2_with fail
    refine (HL.out w2).mono ?_
    rintro e w3 ⟨rfl, hb3⟩
    have HB3 : Hid (Below w.heap.size w w3) := HB2.out.trans (hb3.mono hs2)
    clear hb3 HL
    go_wp2
    go_ret
    exact ⟨rfl, HB3.out⟩)

set_option maxHeartbeats 8000000 in
set_option maxRecDepth 100000 in
theorem Words_ok (v : Value) (l : List ByteArray) (w : World) (hv : RdS w v l) (hn : l.length ≤ 17592186044416) (c : UInt8) (hl : 1 ≤ l.length ∧ l.length ≤ 8) (ho : namesOk l = true) (hf : free l = some c) (ha : askT l = (bs (1 :: c :: Lib.join (l.map fun x => x.data.toList) [c]), 0)) :
    Calls Tryd.prog 3 #[v] w fun e w' => e = .returned (.bool true) ∧ Below w.heap.size w w' := by
  have H1 := Hid.mk' (Ask_any w v l hv hn)
  rw [ha] at H1
  have HL := Hid.mk' lives_any
  have hj0 := join_small ho hl.2 [] (by simp)
  have hj1 := join_small ho hl.2 [c] (by simp)
  obtain ⟨hfr, _, _⟩ := free_is hf
  have hin : inT (joined l []) c = false := by
    unfold inT joined
    rw [data_bs]
    refine decide_eq_false fun h => ?_
    rw [join_mem] at h
    obtain ⟨x, hx, hc⟩ := h
    simp only [List.mem_map] at hx
    obtain ⟨y, hy, rfl⟩ := hx
    exact isFree_mem hfr y hy hc
  have hp : (pieces c (Lib.join (l.map fun x => x.data.toList) [c])).map bs = l := by
    rw [pieces_join c _ (by intro e; simp at e; rw [e] at hl; simp at hl) (fun x hx => ?_), map_bs_data]
    simp only [List.mem_map] at hx
    obtain ⟨y, hy, rfl⟩ := hx
    exact isFree_mem hfr y hy
  have hpos : 1 ≤ (Lib.join (l.map fun x => x.data.toList) [c]).length := by
    cases hll : l with
    | nil => rw [hll] at hl; simp at hl
    | cons x r =>
      have h1 := (nameOk_size (namesOk_mem ho x (by rw [hll]; simp))).1
      rw [size_data] at h1
      rw [List.map_cons, Lib.join_cons, List.length_append]
      omega
  have HJ : Hid (∀ W, Below w.heap.size w W → Calls Tryd.prog 7 #[v, .string ⟨#[]⟩] W fun e w' => e = .returned (.string (joined l [])) ∧ Below W.heap.size W w') := fun W hW => Join_any W v l [] (hv.below hW) hl.1 hn (by omega)
  have HC : Hid (∀ W, Calls Tryd.prog 6 #[.string (joined l []), .string ⟨#[c]⟩] W fun e w' => e = .returned (.bool false) ∧ Below W.heap.size W w') := fun W => by
    have := Contains_one (joined l []) c W
    rw [hin] at this
    exact this.mono fun e w' h => ⟨h.1, by rw [h.2]; exact Below.refl _ _⟩
  have HSP : Hid (∀ W, Calls Tryd.prog 9 #[.string (bs (Lib.join (l.map fun x => x.data.toList) [c])), .string ⟨#[c]⟩] W fun e w' => ∃ v, e = .returned v ∧ RdS w' v l ∧ Below W.heap.size W w') := fun W => by
    have := Split_one (Lib.join (l.map fun x => x.data.toList) [c]) c W (by omega)
    rw [hp] at this
    exact this
  have HEQ : Hid (∀ W v2, RdS W v2 l → Below w.heap.size w W → Calls Tryd.prog 8 #[v2, v] W fun e w' => e = .returned (.bool true) ∧ Below W.heap.size W w') := fun W v2 h2 hW =>
    (Equal_same W v2 v l h2 (hv.below hW) hn).mono fun e w' ⟨h1, q, h3⟩ => ⟨h1, by rw [h3]; exact below_drewN (Below.refl _ _) q⟩
  have hsz : (bs (1 :: c :: Lib.join (l.map fun x => x.data.toList) [c])).size = (Lib.join (l.map fun x => x.data.toList) [c]).length + 2 := by rw [bs_size]; rfl
  have hx1 : (bs (1 :: c :: Lib.join (l.map fun x => x.data.toList) [c])).extract 1 2 = ⟨#[c]⟩ := bs_mid (1 :: c :: _) 1 1
  have hx2 : (bs (1 :: c :: Lib.join (l.map fun x => x.data.toList) [c])).extract 2 ((Lib.join (l.map fun x => x.data.toList) [c]).length + 2) = bs (Lib.join (l.map fun x => x.data.toList) [c]) := by rw [← hsz, bs_drop]; rfl
  have hg0 : ∀ h : 0 < (bs (1 :: c :: Lib.join (l.map fun x => x.data.toList) [c])).size, (bs (1 :: c :: Lib.join (l.map fun x => x.data.toList) [c]))[0]'h = 1 := fun _ => rfl
  obtain ⟨a1, c1, rfl, _, _⟩ := hv
  dsimp only at H1
  clear hin hp hfr ha hf ho
  generalize joined l [] = X at *
  generalize bs (1 :: c :: Lib.join (l.map fun x => x.data.toList) [c]) = D at *
  generalize bs (Lib.join (l.map fun x => x.data.toList) [c]) = JS at *
  generalize (Lib.join (l.map fun x => x.data.toList) [c]).length = n at *
  generalize (⟨#[c]⟩ : ByteArray) = T at *
  have hg0 := hg0 (by omega)
  have hd1 : decide ((2 : Int) < (n : Int) + 2) = true := decide_eq_true (by omega)
  have hd2 : (2 : Int) < (n : Int) + 2 := by omega
  have hd3 : (2 : Int) ≤ (n : Int) + 2 := by omega
  have hd4 : (1 : Int) ≤ (n : Int) + 2 := by omega
  go_enter Tryd.func3, Tryd.ntmps3
  go_wp2_with fail
  refine H1.out.mono ?_
  rintro e w1 ⟨rfl, hb1⟩
  have HB1 := Hid.mk' hb1
  have hs1 := hb1.size
  clear hb1 H1
  go_wp2_with fail
  refine (HL.out w1).mono ?_
  rintro e w2 ⟨rfl, hb2⟩
  have HB2 : Hid (Below w.heap.size w w2) := HB1.out.trans (hb2.mono hs1)
  have hs2 := HB2.out.size
  clear hb2 HL
  have HB3 : Hid (Below w.heap.size w w2.drew) := HB2.out.drew
  go_wp2_with fail
  go_region_held3 (fun w' => Below w.heap.size w w') (first | with_reducible assumption | with_reducible exact HB3.out | exact chainB (by assumption) (Nat.le_refl _) hb) (first | (go_at_call 7; refine (HJ.out _ (by assumption)).mono ?_; rintro e wa ⟨rfl, hb⟩) | (go_at_call 6; refine (HC.out _).mono ?_; rintro e wb ⟨rfl, hb⟩) | (go_at_call 9; refine (HSP.out _).mono ?_; rintro e wc ⟨vs, rfl, hvs, hb⟩) | (go_at_call 8; refine (HEQ.out _ _ (by assumption) (by assumption)).mono ?_; rintro e wd ⟨rfl, hb⟩))
  all_goals (
    have h8 : Below w.heap.size w wd := by assumption
    have HB8 := Hid.mk' h8
    go_wp2
    go_ret
    exact ⟨rfl, HB8.out⟩)

theorem ChoiceWords_any (v : Value) (l : List ByteArray) (w : World) (hv : RdS w v l) (hn : l.length ≤ 17592186044416) :
    Calls Tryd.prog 3 #[v] w fun e w' => e = .returned (.bool true) ∧ Below w.heap.size w w' := by
  rcases ask_cases l with h | ⟨c, h1, ho, hf, ha⟩
  · exact Words_err v l w hv hn h
  · exact Words_ok v l w hv hn c h1 ho hf ha
end Go.Proofs.YtckgkncahaicoaaDoor.C
