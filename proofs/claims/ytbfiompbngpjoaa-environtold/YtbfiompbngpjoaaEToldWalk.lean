/-
  The walk of farkeep.EnvironTold: it returns true; condition: at most 2^47 bytes of variables each.
-/
import Derived.Test.YtbfiompbngpjoaaETold0
import Derived.Deep.RegionHeld3
namespace Go.Proofs.Ytbfiompbngpjoaa.E
open Go.RowKit Go.Lib Go.Proofs.Ytbfiompbngpjoaa Go.Proofs.Ytbfiompbngpjoaa.W Go.Proofs.Ytbfiompbngpjoaa.Q Go.Proofs.Ytbfiompbngpjoaa.C

def FState (w : World) (m : List Vr) (g : Nat) (s1 s17 : Value) (wr : World) : Prop :=
  ∃ (k : Nat) (a : Option Addr) (c : Nat), k ≤ m.length ∧ m.length - k ≤ g ∧ s17 = .int .i64 (k : Int) ∧ s1 = .slice a m.length c ∧ Hid (RdV wr (.slice a m.length c) (fixK m k)) ∧ Hid (Below w.heap.size w wr)

set_option maxHeartbeats 16000000 in
set_option maxRecDepth 100000 in
theorem Told_a2 (w : World) (v v2 : Value) (l m : List Vr) (hv : RdV w v l) (hv2 : RdV w v2 m) (hn : l.length * 40 ≤ 140737488355328) (hm : m.length * 40 ≤ 140737488355328) (h : chk (m.map fix) = 2) :
    Calls Try.prog 5 #[v, v2] w fun e w' => e = .returned (.bool true) ∧ Below w.heap.size w w' := by
  have HCl : Hid (∀ W a c k, k ≤ m.length → RdV W (.slice a m.length c) (fixK m k) → Calls Try.prog 11 #[.slice a m.length c] W fun e w' => ∃ ad cap, e = .returned (.slice ad m.length cap) ∧ OwnV w' W.heap.size ad cap (fixK m k) ∧ Below W.heap.size W w') := fun W a c k hk hR => by
    have hl := fixK_len m hk
    have := Clone_any W _ _ hR (by rw [hl]; exact hm)
    rw [hl] at this
    exact this
  have HWM : Hid (∀ W a c, RdV W (.slice a m.length c) (m.map fix) → _) := fun W a c h => Write_any W (.slice a m.length c) (m.map fix) h (by rw [List.length_map]; omega)
  have HWL : Hid (∀ W, Below w.heap.size w W → _) := fun W hW => Write_any W v l (hv.below hW (Nat.le_refl _)) (by omega)
  have HL := Hid.mk' lives_any
  have HV := Hid.mk' hv
  rw [writeT_no (by rw [h]; decide), h] at HWM
  have HWL2 : Hid (∀ W, Below w.heap.size w W → ∃ (S : ByteArray) (f : Int), Calls Try.prog 7 #[v] W fun e w' => e = .returned (.tuple #[.string S, .int .i64 f]) ∧ Below W.heap.size W w') := fun W h => ⟨_, _, HWL.out W h⟩
  clear HWL
  obtain ⟨a0, c0, rfl, hc0, hr0⟩ := hv
  have HV2 := Hid.mk' hv2
  obtain ⟨a2, c2, rfl, hc2, hr2⟩ := hv2
  have HST : Hid (FState w m m.length (.slice a2 m.length c2) (.int .i64 0) w) := ⟨0, a2, c2, Nat.zero_le _, by omega, rfl, rfl, by rw [fixK_zero]; exact HV2, Below.refl _ _⟩
  clear hr0 hr2 HV2
  go_enter Try.func5, Try.ntmps5
  go_wp2_with fail
  go_loopg [1, 17] m.length (fun g s1 s17 wr => FState w m g s1 s17 wr)
  case atStart => exact HST.out
  case round =>
    obtain ⟨k, a, c, hk, hg, rfl, rfl, HR, HB⟩ := hrel
    clear HST
    have hbs := HB.out.size
    by_cases hlt : k < m.length
    · clear HWM HWL2 HL HV
      have H1 := Hid.mk' (HCl.out wr a c k (by omega) HR.out)
      clear HCl HR
      go_wp2_with fail
      refine H1.out.mono ?_
      rintro e w1 ⟨ad, cap, rfl, ho, hb1⟩
      have hlen := fixK_len m (Nat.le_of_lt hlt)
      have hk2 : k < (fixK m k).length := by omega
      obtain ⟨g, rfl⟩ : ∃ g, ad = some ⟨g, 0, none⟩ := by
        rcases ho.shape with ⟨_, _, e⟩ | h
        · rw [e] at hk2; simp at hk2
        · exact h
      obtain ⟨hg1, hg2, hLc, hcm, hroom⟩ := ho.room
      have hRd := ho.rd
      rw [hlen] at hRd
      obtain ⟨a9, c9, e9, hc9, hr9⟩ := hRd
      simp only [Value.slice.injEq] at e9
      obtain ⟨rfl, hee, rfl⟩ := e9
      clear hee
      rcases hr9 with h0 | ⟨b9, o9, e9, t9, hb9⟩
      · rw [h0] at hk2; simp at hk2
      simp only [Option.some.injEq, Addr.mk.injEq, and_true] at e9
      obtain ⟨rfl, rfl⟩ := e9
      have hcell := t9 k hk2
      rw [fixK_at m hlt hk2, Nat.zero_add] at hcell
      obtain ⟨q0, q1, q2, q3⟩ := hcell
      have f0 := (hroom.cell (j := k * 4) (by omega)).2
      have f1 := (hroom.cell (j := k * 4 + 1) (by omega)).2
      have f3 := (hroom.cell (j := k * 4 + 3) (by omega)).2
      have HBW := Hid.mk' (HB.out.trans (hb1.mono hbs))
      have hgw : w.heap.size ≤ g := by omega
      have hkc : k < cap := by omega
      have hmc : m.length ≤ cap := by omega
      by_cases hnm : m[k].name = []
      · have hE : (bs m[k].name).toList.isEmpty = true := by rw [bs_list, hnm]; rfl
        have HF := Hid.mk' (fix_setx (w := w1) (g := g) (k := k) t9 hk2 (fix m[k]) (by rw [fixK_at m hlt hk2]; unfold fix; rw [if_pos hnm]))
        have HR2 : Hid (RdV (((w1.setCell ⟨g, k * 4, none⟩ (.string ⟨#[120]⟩)).setCell ⟨g, k * 4 + 1, none⟩ (.string ⟨#[]⟩)).setCell ⟨g, k * 4 + 3, none⟩ (.bool false)) (.slice (some ⟨g, 0, none⟩) m.length cap) (fixK m (k + 1))) :=
          ⟨_, cap, by rw [fixK_len m (by omega)], by rw [fixK_len m (by omega)]; exact hmc, .inr ⟨g, 0, rfl, by rw [fixK_succ m hlt]; exact HF.out, by simpa [World.setCell] using hg2⟩⟩
        have HB2 : Hid (Below w.heap.size w (((w1.setCell ⟨g, k * 4, none⟩ (.string ⟨#[120]⟩)).setCell ⟨g, k * 4 + 1, none⟩ (.string ⟨#[]⟩)).setCell ⟨g, k * 4 + 3, none⟩ (.bool false))) := ((HBW.out.setCell (p := ⟨g, k * 4, none⟩) hgw _).setCell (p := ⟨g, k * 4 + 1, none⟩) hgw _).setCell (p := ⟨g, k * 4 + 3, none⟩) hgw _
        clear HF t9 ho hroom hb1 HB HBW H1 hlen hk2 hLc hcm hnm
        generalize bs m[k].name = z0 at *
        generalize bs m[k].value = z1 at *
        generalize m[k].user = z2 at *
        generalize m[k].set = z3 at *
        go_wp2
        go_roundg (m.length - (k + 1))
        case measure => omega
        case rel => exact ⟨k + 1, _, cap, by omega, by omega, by go_num, rfl, HR2, HB2⟩
      · have hE : (bs m[k].name).toList.isEmpty = false := by
          rw [bs_list]
          cases hv : m[k].name with
          | nil => exact absurd hv hnm
          | cons a t => rfl
        have HF := Hid.mk' (fix_set (w := w1) (g := g) (k := k) t9 hk2 (fix m[k]) (by rw [fixK_at m hlt hk2]; unfold fix; rw [if_neg hnm]))
        have HR2 : Hid (RdV ((w1.setCell ⟨g, k * 4 + 1, none⟩ (.string ⟨#[]⟩)).setCell ⟨g, k * 4 + 3, none⟩ (.bool false)) (.slice (some ⟨g, 0, none⟩) m.length cap) (fixK m (k + 1))) :=
          ⟨_, cap, by rw [fixK_len m (by omega)], by rw [fixK_len m (by omega)]; exact hmc, .inr ⟨g, 0, rfl, by rw [fixK_succ m hlt]; exact HF.out, by simpa [World.setCell] using hg2⟩⟩
        have HB2 : Hid (Below w.heap.size w ((w1.setCell ⟨g, k * 4 + 1, none⟩ (.string ⟨#[]⟩)).setCell ⟨g, k * 4 + 3, none⟩ (.bool false))) := (HBW.out.setCell (p := ⟨g, k * 4 + 1, none⟩) hgw _).setCell (p := ⟨g, k * 4 + 3, none⟩) hgw _
        clear HF t9 ho hroom hb1 HB HBW H1 hlen hk2 hLc hcm hnm
        generalize bs m[k].name = z0 at *
        generalize bs m[k].value = z1 at *
        generalize m[k].user = z2 at *
        generalize m[k].set = z3 at *
        go_wp2
        go_roundg (m.length - (k + 1))
        case measure => omega
        case rel => exact ⟨k + 1, _, cap, by omega, by omega, by go_num, rfl, HR2, HB2⟩
    · obtain rfl : k = m.length := by omega
      have HM : Hid (RdV wr (.slice a m.length c) (m.map fix)) := by
        have := HR.out
        rw [fixK_all] at this
        exact this
      clear HCl HR
      go_wp2_with fail
      refine (HWM.out wr a c HM.out).mono ?_
      rintro e w1 ⟨rfl, hb1⟩
      have HB1 := Hid.mk' (HB.out.trans (hb1.mono hbs))
      have hs1 := HB1.out.size
      clear hb1 HB HWM HM
      go_wp2_with fail
      obtain ⟨S2, f2, HW2⟩ := HWL2.out w1 HB1.out
      refine HW2.mono ?_
      rintro e w2 ⟨rfl, hb2⟩
      have HB2 := Hid.mk' (HB1.out.trans (hb2.mono hs1))
      have hs2 := HB2.out.size
      clear hb2 HB1 HWL2 HW2
      go_wp2_with fail
      refine (HL.out w2).mono ?_
      rintro e w3 ⟨rfl, hb3⟩
      have HB3 := Hid.mk' (HB2.out.trans (hb3.mono hs2))
      have hs3 := HB3.out.size
      clear hb3 HB2
      go_wp2_with fail
      refine (HL.out w3).mono ?_
      rintro e w4 ⟨rfl, hb4⟩
      have HB4 := Hid.mk' (HB3.out.trans (hb4.mono hs3))
      clear hb4 HB3
      go_wp2
      go_ret
      exact ⟨rfl, HB4.out⟩

set_option maxHeartbeats 16000000 in
set_option maxRecDepth 100000 in
theorem Told_b2 (w : World) (v v2 : Value) (l m : List Vr) (hv : RdV w v l) (hv2 : RdV w v2 m) (hn : l.length * 40 ≤ 140737488355328) (hm : m.length * 40 ≤ 140737488355328) (h : chk (m.map fix) = 0) (h2 : chk l = 2) :
    Calls Try.prog 5 #[v, v2] w fun e w' => e = .returned (.bool true) ∧ Below w.heap.size w w' := by
  have HCl : Hid (∀ W a c k, k ≤ m.length → RdV W (.slice a m.length c) (fixK m k) → Calls Try.prog 11 #[.slice a m.length c] W fun e w' => ∃ ad cap, e = .returned (.slice ad m.length cap) ∧ OwnV w' W.heap.size ad cap (fixK m k) ∧ Below W.heap.size W w') := fun W a c k hk hR => by
    have hl := fixK_len m hk
    have := Clone_any W _ _ hR (by rw [hl]; exact hm)
    rw [hl] at this
    exact this
  have HWM : Hid (∀ W a c, RdV W (.slice a m.length c) (m.map fix) → _) := fun W a c h => Write_any W (.slice a m.length c) (m.map fix) h (by rw [List.length_map]; omega)
  have HWL : Hid (∀ W, Below w.heap.size w W → _) := fun W hW => Write_any W v l (hv.below hW (Nat.le_refl _)) (by omega)
  have HL := Hid.mk' lives_any
  have HV := Hid.mk' hv
  rw [writeT_ok h] at HWM
  rw [writeT_no (by rw [h2]; decide), h2] at HWL
  dsimp only at HWM HWL
  generalize bs (txt (m.map fix)) = T at *
  obtain ⟨a0, c0, rfl, hc0, hr0⟩ := hv
  have HV2 := Hid.mk' hv2
  obtain ⟨a2, c2, rfl, hc2, hr2⟩ := hv2
  have HST : Hid (FState w m m.length (.slice a2 m.length c2) (.int .i64 0) w) := ⟨0, a2, c2, Nat.zero_le _, by omega, rfl, rfl, by rw [fixK_zero]; exact HV2, Below.refl _ _⟩
  clear hr0 hr2 HV2
  go_enter Try.func5, Try.ntmps5
  go_wp2_with fail
  go_loopg [1, 17] m.length (fun g s1 s17 wr => FState w m g s1 s17 wr)
  case atStart => exact HST.out
  case round =>
    obtain ⟨k, a, c, hk, hg, rfl, rfl, HR, HB⟩ := hrel
    clear HST
    have hbs := HB.out.size
    by_cases hlt : k < m.length
    · clear HWM HWL HL HV
      have H1 := Hid.mk' (HCl.out wr a c k (by omega) HR.out)
      clear HCl HR
      go_wp2_with fail
      refine H1.out.mono ?_
      rintro e w1 ⟨ad, cap, rfl, ho, hb1⟩
      have hlen := fixK_len m (Nat.le_of_lt hlt)
      have hk2 : k < (fixK m k).length := by omega
      obtain ⟨g, rfl⟩ : ∃ g, ad = some ⟨g, 0, none⟩ := by
        rcases ho.shape with ⟨_, _, e⟩ | h
        · rw [e] at hk2; simp at hk2
        · exact h
      obtain ⟨hg1, hg2, hLc, hcm, hroom⟩ := ho.room
      have hRd := ho.rd
      rw [hlen] at hRd
      obtain ⟨a9, c9, e9, hc9, hr9⟩ := hRd
      simp only [Value.slice.injEq] at e9
      obtain ⟨rfl, hee, rfl⟩ := e9
      clear hee
      rcases hr9 with h0 | ⟨b9, o9, e9, t9, hb9⟩
      · rw [h0] at hk2; simp at hk2
      simp only [Option.some.injEq, Addr.mk.injEq, and_true] at e9
      obtain ⟨rfl, rfl⟩ := e9
      have hcell := t9 k hk2
      rw [fixK_at m hlt hk2, Nat.zero_add] at hcell
      obtain ⟨q0, q1, q2, q3⟩ := hcell
      have f0 := (hroom.cell (j := k * 4) (by omega)).2
      have f1 := (hroom.cell (j := k * 4 + 1) (by omega)).2
      have f3 := (hroom.cell (j := k * 4 + 3) (by omega)).2
      have HBW := Hid.mk' (HB.out.trans (hb1.mono hbs))
      have hgw : w.heap.size ≤ g := by omega
      have hkc : k < cap := by omega
      have hmc : m.length ≤ cap := by omega
      by_cases hnm : m[k].name = []
      · have hE : (bs m[k].name).toList.isEmpty = true := by rw [bs_list, hnm]; rfl
        have HF := Hid.mk' (fix_setx (w := w1) (g := g) (k := k) t9 hk2 (fix m[k]) (by rw [fixK_at m hlt hk2]; unfold fix; rw [if_pos hnm]))
        have HR2 : Hid (RdV (((w1.setCell ⟨g, k * 4, none⟩ (.string ⟨#[120]⟩)).setCell ⟨g, k * 4 + 1, none⟩ (.string ⟨#[]⟩)).setCell ⟨g, k * 4 + 3, none⟩ (.bool false)) (.slice (some ⟨g, 0, none⟩) m.length cap) (fixK m (k + 1))) :=
          ⟨_, cap, by rw [fixK_len m (by omega)], by rw [fixK_len m (by omega)]; exact hmc, .inr ⟨g, 0, rfl, by rw [fixK_succ m hlt]; exact HF.out, by simpa [World.setCell] using hg2⟩⟩
        have HB2 : Hid (Below w.heap.size w (((w1.setCell ⟨g, k * 4, none⟩ (.string ⟨#[120]⟩)).setCell ⟨g, k * 4 + 1, none⟩ (.string ⟨#[]⟩)).setCell ⟨g, k * 4 + 3, none⟩ (.bool false))) := ((HBW.out.setCell (p := ⟨g, k * 4, none⟩) hgw _).setCell (p := ⟨g, k * 4 + 1, none⟩) hgw _).setCell (p := ⟨g, k * 4 + 3, none⟩) hgw _
        clear HF t9 ho hroom hb1 HB HBW H1 hlen hk2 hLc hcm hnm
        generalize bs m[k].name = z0 at *
        generalize bs m[k].value = z1 at *
        generalize m[k].user = z2 at *
        generalize m[k].set = z3 at *
        go_wp2
        go_roundg (m.length - (k + 1))
        case measure => omega
        case rel => exact ⟨k + 1, _, cap, by omega, by omega, by go_num, rfl, HR2, HB2⟩
      · have hE : (bs m[k].name).toList.isEmpty = false := by
          rw [bs_list]
          cases hv : m[k].name with
          | nil => exact absurd hv hnm
          | cons a t => rfl
        have HF := Hid.mk' (fix_set (w := w1) (g := g) (k := k) t9 hk2 (fix m[k]) (by rw [fixK_at m hlt hk2]; unfold fix; rw [if_neg hnm]))
        have HR2 : Hid (RdV ((w1.setCell ⟨g, k * 4 + 1, none⟩ (.string ⟨#[]⟩)).setCell ⟨g, k * 4 + 3, none⟩ (.bool false)) (.slice (some ⟨g, 0, none⟩) m.length cap) (fixK m (k + 1))) :=
          ⟨_, cap, by rw [fixK_len m (by omega)], by rw [fixK_len m (by omega)]; exact hmc, .inr ⟨g, 0, rfl, by rw [fixK_succ m hlt]; exact HF.out, by simpa [World.setCell] using hg2⟩⟩
        have HB2 : Hid (Below w.heap.size w ((w1.setCell ⟨g, k * 4 + 1, none⟩ (.string ⟨#[]⟩)).setCell ⟨g, k * 4 + 3, none⟩ (.bool false))) := (HBW.out.setCell (p := ⟨g, k * 4 + 1, none⟩) hgw _).setCell (p := ⟨g, k * 4 + 3, none⟩) hgw _
        clear HF t9 ho hroom hb1 HB HBW H1 hlen hk2 hLc hcm hnm
        generalize bs m[k].name = z0 at *
        generalize bs m[k].value = z1 at *
        generalize m[k].user = z2 at *
        generalize m[k].set = z3 at *
        go_wp2
        go_roundg (m.length - (k + 1))
        case measure => omega
        case rel => exact ⟨k + 1, _, cap, by omega, by omega, by go_num, rfl, HR2, HB2⟩
    · obtain rfl : k = m.length := by omega
      have HM : Hid (RdV wr (.slice a m.length c) (m.map fix)) := by
        have := HR.out
        rw [fixK_all] at this
        exact this
      clear HCl HR
      go_wp2_with fail
      refine (HWM.out wr a c HM.out).mono ?_
      rintro e w1 ⟨rfl, hb1⟩
      have HB1 := Hid.mk' (HB.out.trans (hb1.mono hbs))
      have hs1 := HB1.out.size
      clear hb1 HB HWM HM
      go_wp2_with fail
      refine (HWL.out w1 HB1.out).mono ?_
      rintro e w2 ⟨rfl, hb2⟩
      have HB2 := Hid.mk' (HB1.out.trans (hb2.mono hs1))
      have hs2 := HB2.out.size
      clear hb2 HB1 HWL
      go_wp2_with fail
      refine (HL.out w2).mono ?_
      rintro e w3 ⟨rfl, hb3⟩
      have HB3 := Hid.mk' (HB2.out.trans (hb3.mono hs2))
      have hs3 := HB3.out.size
      clear hb3 HB2
      go_wp2_with fail
      refine (HL.out w3).mono ?_
      rintro e w4 ⟨rfl, hb4⟩
      have HB4 := Hid.mk' (HB3.out.trans (hb4.mono hs3))
      clear hb4 HB3
      go_wp2
      go_ret
      exact ⟨rfl, HB4.out⟩

set_option maxHeartbeats 16000000 in
set_option maxRecDepth 100000 in
theorem Told_a4 (w : World) (v v2 : Value) (l m : List Vr) (hv : RdV w v l) (hv2 : RdV w v2 m) (hn : l.length * 40 ≤ 140737488355328) (hm : m.length * 40 ≤ 140737488355328) (h : chk (m.map fix) = 4) :
    Calls Try.prog 5 #[v, v2] w fun e w' => e = .returned (.bool true) ∧ Below w.heap.size w w' := by
  have HCl : Hid (∀ W a c k, k ≤ m.length → RdV W (.slice a m.length c) (fixK m k) → Calls Try.prog 11 #[.slice a m.length c] W fun e w' => ∃ ad cap, e = .returned (.slice ad m.length cap) ∧ OwnV w' W.heap.size ad cap (fixK m k) ∧ Below W.heap.size W w') := fun W a c k hk hR => by
    have hl := fixK_len m hk
    have := Clone_any W _ _ hR (by rw [hl]; exact hm)
    rw [hl] at this
    exact this
  have HWM : Hid (∀ W a c, RdV W (.slice a m.length c) (m.map fix) → _) := fun W a c h => Write_any W (.slice a m.length c) (m.map fix) h (by rw [List.length_map]; omega)
  have HWL : Hid (∀ W, Below w.heap.size w W → _) := fun W hW => Write_any W v l (hv.below hW (Nat.le_refl _)) (by omega)
  have HL := Hid.mk' lives_any
  have HV := Hid.mk' hv
  rw [writeT_no (by rw [h]; decide), h] at HWM
  have HWL2 : Hid (∀ W, Below w.heap.size w W → ∃ (S : ByteArray) (f : Int), Calls Try.prog 7 #[v] W fun e w' => e = .returned (.tuple #[.string S, .int .i64 f]) ∧ Below W.heap.size W w') := fun W h => ⟨_, _, HWL.out W h⟩
  clear HWL
  obtain ⟨a0, c0, rfl, hc0, hr0⟩ := hv
  have HV2 := Hid.mk' hv2
  obtain ⟨a2, c2, rfl, hc2, hr2⟩ := hv2
  have HST : Hid (FState w m m.length (.slice a2 m.length c2) (.int .i64 0) w) := ⟨0, a2, c2, Nat.zero_le _, by omega, rfl, rfl, by rw [fixK_zero]; exact HV2, Below.refl _ _⟩
  clear hr0 hr2 HV2
  go_enter Try.func5, Try.ntmps5
  go_wp2_with fail
  go_loopg [1, 17] m.length (fun g s1 s17 wr => FState w m g s1 s17 wr)
  case atStart => exact HST.out
  case round =>
    obtain ⟨k, a, c, hk, hg, rfl, rfl, HR, HB⟩ := hrel
    clear HST
    have hbs := HB.out.size
    by_cases hlt : k < m.length
    · clear HWM HWL2 HL HV
      have H1 := Hid.mk' (HCl.out wr a c k (by omega) HR.out)
      clear HCl HR
      go_wp2_with fail
      refine H1.out.mono ?_
      rintro e w1 ⟨ad, cap, rfl, ho, hb1⟩
      have hlen := fixK_len m (Nat.le_of_lt hlt)
      have hk2 : k < (fixK m k).length := by omega
      obtain ⟨g, rfl⟩ : ∃ g, ad = some ⟨g, 0, none⟩ := by
        rcases ho.shape with ⟨_, _, e⟩ | h
        · rw [e] at hk2; simp at hk2
        · exact h
      obtain ⟨hg1, hg2, hLc, hcm, hroom⟩ := ho.room
      have hRd := ho.rd
      rw [hlen] at hRd
      obtain ⟨a9, c9, e9, hc9, hr9⟩ := hRd
      simp only [Value.slice.injEq] at e9
      obtain ⟨rfl, hee, rfl⟩ := e9
      clear hee
      rcases hr9 with h0 | ⟨b9, o9, e9, t9, hb9⟩
      · rw [h0] at hk2; simp at hk2
      simp only [Option.some.injEq, Addr.mk.injEq, and_true] at e9
      obtain ⟨rfl, rfl⟩ := e9
      have hcell := t9 k hk2
      rw [fixK_at m hlt hk2, Nat.zero_add] at hcell
      obtain ⟨q0, q1, q2, q3⟩ := hcell
      have f0 := (hroom.cell (j := k * 4) (by omega)).2
      have f1 := (hroom.cell (j := k * 4 + 1) (by omega)).2
      have f3 := (hroom.cell (j := k * 4 + 3) (by omega)).2
      have HBW := Hid.mk' (HB.out.trans (hb1.mono hbs))
      have hgw : w.heap.size ≤ g := by omega
      have hkc : k < cap := by omega
      have hmc : m.length ≤ cap := by omega
      by_cases hnm : m[k].name = []
      · have hE : (bs m[k].name).toList.isEmpty = true := by rw [bs_list, hnm]; rfl
        have HF := Hid.mk' (fix_setx (w := w1) (g := g) (k := k) t9 hk2 (fix m[k]) (by rw [fixK_at m hlt hk2]; unfold fix; rw [if_pos hnm]))
        have HR2 : Hid (RdV (((w1.setCell ⟨g, k * 4, none⟩ (.string ⟨#[120]⟩)).setCell ⟨g, k * 4 + 1, none⟩ (.string ⟨#[]⟩)).setCell ⟨g, k * 4 + 3, none⟩ (.bool false)) (.slice (some ⟨g, 0, none⟩) m.length cap) (fixK m (k + 1))) :=
          ⟨_, cap, by rw [fixK_len m (by omega)], by rw [fixK_len m (by omega)]; exact hmc, .inr ⟨g, 0, rfl, by rw [fixK_succ m hlt]; exact HF.out, by simpa [World.setCell] using hg2⟩⟩
        have HB2 : Hid (Below w.heap.size w (((w1.setCell ⟨g, k * 4, none⟩ (.string ⟨#[120]⟩)).setCell ⟨g, k * 4 + 1, none⟩ (.string ⟨#[]⟩)).setCell ⟨g, k * 4 + 3, none⟩ (.bool false))) := ((HBW.out.setCell (p := ⟨g, k * 4, none⟩) hgw _).setCell (p := ⟨g, k * 4 + 1, none⟩) hgw _).setCell (p := ⟨g, k * 4 + 3, none⟩) hgw _
        clear HF t9 ho hroom hb1 HB HBW H1 hlen hk2 hLc hcm hnm
        generalize bs m[k].name = z0 at *
        generalize bs m[k].value = z1 at *
        generalize m[k].user = z2 at *
        generalize m[k].set = z3 at *
        go_wp2
        go_roundg (m.length - (k + 1))
        case measure => omega
        case rel => exact ⟨k + 1, _, cap, by omega, by omega, by go_num, rfl, HR2, HB2⟩
      · have hE : (bs m[k].name).toList.isEmpty = false := by
          rw [bs_list]
          cases hv : m[k].name with
          | nil => exact absurd hv hnm
          | cons a t => rfl
        have HF := Hid.mk' (fix_set (w := w1) (g := g) (k := k) t9 hk2 (fix m[k]) (by rw [fixK_at m hlt hk2]; unfold fix; rw [if_neg hnm]))
        have HR2 : Hid (RdV ((w1.setCell ⟨g, k * 4 + 1, none⟩ (.string ⟨#[]⟩)).setCell ⟨g, k * 4 + 3, none⟩ (.bool false)) (.slice (some ⟨g, 0, none⟩) m.length cap) (fixK m (k + 1))) :=
          ⟨_, cap, by rw [fixK_len m (by omega)], by rw [fixK_len m (by omega)]; exact hmc, .inr ⟨g, 0, rfl, by rw [fixK_succ m hlt]; exact HF.out, by simpa [World.setCell] using hg2⟩⟩
        have HB2 : Hid (Below w.heap.size w ((w1.setCell ⟨g, k * 4 + 1, none⟩ (.string ⟨#[]⟩)).setCell ⟨g, k * 4 + 3, none⟩ (.bool false))) := (HBW.out.setCell (p := ⟨g, k * 4 + 1, none⟩) hgw _).setCell (p := ⟨g, k * 4 + 3, none⟩) hgw _
        clear HF t9 ho hroom hb1 HB HBW H1 hlen hk2 hLc hcm hnm
        generalize bs m[k].name = z0 at *
        generalize bs m[k].value = z1 at *
        generalize m[k].user = z2 at *
        generalize m[k].set = z3 at *
        go_wp2
        go_roundg (m.length - (k + 1))
        case measure => omega
        case rel => exact ⟨k + 1, _, cap, by omega, by omega, by go_num, rfl, HR2, HB2⟩
    · obtain rfl : k = m.length := by omega
      have HM : Hid (RdV wr (.slice a m.length c) (m.map fix)) := by
        have := HR.out
        rw [fixK_all] at this
        exact this
      clear HCl HR
      go_wp2_with fail
      refine (HWM.out wr a c HM.out).mono ?_
      rintro e w1 ⟨rfl, hb1⟩
      have HB1 := Hid.mk' (HB.out.trans (hb1.mono hbs))
      have hs1 := HB1.out.size
      clear hb1 HB HWM HM
      go_wp2_with fail
      obtain ⟨S2, f2, HW2⟩ := HWL2.out w1 HB1.out
      refine HW2.mono ?_
      rintro e w2 ⟨rfl, hb2⟩
      have HB2 := Hid.mk' (HB1.out.trans (hb2.mono hs1))
      have hs2 := HB2.out.size
      clear hb2 HB1 HWL2 HW2
      go_wp2_with fail
      refine (HL.out w2).mono ?_
      rintro e w3 ⟨rfl, hb3⟩
      have HB3 := Hid.mk' (HB2.out.trans (hb3.mono hs2))
      have hs3 := HB3.out.size
      clear hb3 HB2
      go_wp2_with fail
      refine (HL.out w3).mono ?_
      rintro e w4 ⟨rfl, hb4⟩
      have HB4 := Hid.mk' (HB3.out.trans (hb4.mono hs3))
      clear hb4 HB3
      go_wp2
      go_ret
      exact ⟨rfl, HB4.out⟩

set_option maxHeartbeats 16000000 in
set_option maxRecDepth 100000 in
theorem Told_b4 (w : World) (v v2 : Value) (l m : List Vr) (hv : RdV w v l) (hv2 : RdV w v2 m) (hn : l.length * 40 ≤ 140737488355328) (hm : m.length * 40 ≤ 140737488355328) (h : chk (m.map fix) = 0) (h2 : chk l = 4) :
    Calls Try.prog 5 #[v, v2] w fun e w' => e = .returned (.bool true) ∧ Below w.heap.size w w' := by
  have HCl : Hid (∀ W a c k, k ≤ m.length → RdV W (.slice a m.length c) (fixK m k) → Calls Try.prog 11 #[.slice a m.length c] W fun e w' => ∃ ad cap, e = .returned (.slice ad m.length cap) ∧ OwnV w' W.heap.size ad cap (fixK m k) ∧ Below W.heap.size W w') := fun W a c k hk hR => by
    have hl := fixK_len m hk
    have := Clone_any W _ _ hR (by rw [hl]; exact hm)
    rw [hl] at this
    exact this
  have HWM : Hid (∀ W a c, RdV W (.slice a m.length c) (m.map fix) → _) := fun W a c h => Write_any W (.slice a m.length c) (m.map fix) h (by rw [List.length_map]; omega)
  have HWL : Hid (∀ W, Below w.heap.size w W → _) := fun W hW => Write_any W v l (hv.below hW (Nat.le_refl _)) (by omega)
  have HL := Hid.mk' lives_any
  have HV := Hid.mk' hv
  rw [writeT_ok h] at HWM
  rw [writeT_no (by rw [h2]; decide), h2] at HWL
  dsimp only at HWM HWL
  generalize bs (txt (m.map fix)) = T at *
  obtain ⟨a0, c0, rfl, hc0, hr0⟩ := hv
  have HV2 := Hid.mk' hv2
  obtain ⟨a2, c2, rfl, hc2, hr2⟩ := hv2
  have HST : Hid (FState w m m.length (.slice a2 m.length c2) (.int .i64 0) w) := ⟨0, a2, c2, Nat.zero_le _, by omega, rfl, rfl, by rw [fixK_zero]; exact HV2, Below.refl _ _⟩
  clear hr0 hr2 HV2
  go_enter Try.func5, Try.ntmps5
  go_wp2_with fail
  go_loopg [1, 17] m.length (fun g s1 s17 wr => FState w m g s1 s17 wr)
  case atStart => exact HST.out
  case round =>
    obtain ⟨k, a, c, hk, hg, rfl, rfl, HR, HB⟩ := hrel
    clear HST
    have hbs := HB.out.size
    by_cases hlt : k < m.length
    · clear HWM HWL HL HV
      have H1 := Hid.mk' (HCl.out wr a c k (by omega) HR.out)
      clear HCl HR
      go_wp2_with fail
      refine H1.out.mono ?_
      rintro e w1 ⟨ad, cap, rfl, ho, hb1⟩
      have hlen := fixK_len m (Nat.le_of_lt hlt)
      have hk2 : k < (fixK m k).length := by omega
      obtain ⟨g, rfl⟩ : ∃ g, ad = some ⟨g, 0, none⟩ := by
        rcases ho.shape with ⟨_, _, e⟩ | h
        · rw [e] at hk2; simp at hk2
        · exact h
      obtain ⟨hg1, hg2, hLc, hcm, hroom⟩ := ho.room
      have hRd := ho.rd
      rw [hlen] at hRd
      obtain ⟨a9, c9, e9, hc9, hr9⟩ := hRd
      simp only [Value.slice.injEq] at e9
      obtain ⟨rfl, hee, rfl⟩ := e9
      clear hee
      rcases hr9 with h0 | ⟨b9, o9, e9, t9, hb9⟩
      · rw [h0] at hk2; simp at hk2
      simp only [Option.some.injEq, Addr.mk.injEq, and_true] at e9
      obtain ⟨rfl, rfl⟩ := e9
      have hcell := t9 k hk2
      rw [fixK_at m hlt hk2, Nat.zero_add] at hcell
      obtain ⟨q0, q1, q2, q3⟩ := hcell
      have f0 := (hroom.cell (j := k * 4) (by omega)).2
      have f1 := (hroom.cell (j := k * 4 + 1) (by omega)).2
      have f3 := (hroom.cell (j := k * 4 + 3) (by omega)).2
      have HBW := Hid.mk' (HB.out.trans (hb1.mono hbs))
      have hgw : w.heap.size ≤ g := by omega
      have hkc : k < cap := by omega
      have hmc : m.length ≤ cap := by omega
      by_cases hnm : m[k].name = []
      · have hE : (bs m[k].name).toList.isEmpty = true := by rw [bs_list, hnm]; rfl
        have HF := Hid.mk' (fix_setx (w := w1) (g := g) (k := k) t9 hk2 (fix m[k]) (by rw [fixK_at m hlt hk2]; unfold fix; rw [if_pos hnm]))
        have HR2 : Hid (RdV (((w1.setCell ⟨g, k * 4, none⟩ (.string ⟨#[120]⟩)).setCell ⟨g, k * 4 + 1, none⟩ (.string ⟨#[]⟩)).setCell ⟨g, k * 4 + 3, none⟩ (.bool false)) (.slice (some ⟨g, 0, none⟩) m.length cap) (fixK m (k + 1))) :=
          ⟨_, cap, by rw [fixK_len m (by omega)], by rw [fixK_len m (by omega)]; exact hmc, .inr ⟨g, 0, rfl, by rw [fixK_succ m hlt]; exact HF.out, by simpa [World.setCell] using hg2⟩⟩
        have HB2 : Hid (Below w.heap.size w (((w1.setCell ⟨g, k * 4, none⟩ (.string ⟨#[120]⟩)).setCell ⟨g, k * 4 + 1, none⟩ (.string ⟨#[]⟩)).setCell ⟨g, k * 4 + 3, none⟩ (.bool false))) := ((HBW.out.setCell (p := ⟨g, k * 4, none⟩) hgw _).setCell (p := ⟨g, k * 4 + 1, none⟩) hgw _).setCell (p := ⟨g, k * 4 + 3, none⟩) hgw _
        clear HF t9 ho hroom hb1 HB HBW H1 hlen hk2 hLc hcm hnm
        generalize bs m[k].name = z0 at *
        generalize bs m[k].value = z1 at *
        generalize m[k].user = z2 at *
        generalize m[k].set = z3 at *
        go_wp2
        go_roundg (m.length - (k + 1))
        case measure => omega
        case rel => exact ⟨k + 1, _, cap, by omega, by omega, by go_num, rfl, HR2, HB2⟩
      · have hE : (bs m[k].name).toList.isEmpty = false := by
          rw [bs_list]
          cases hv : m[k].name with
          | nil => exact absurd hv hnm
          | cons a t => rfl
        have HF := Hid.mk' (fix_set (w := w1) (g := g) (k := k) t9 hk2 (fix m[k]) (by rw [fixK_at m hlt hk2]; unfold fix; rw [if_neg hnm]))
        have HR2 : Hid (RdV ((w1.setCell ⟨g, k * 4 + 1, none⟩ (.string ⟨#[]⟩)).setCell ⟨g, k * 4 + 3, none⟩ (.bool false)) (.slice (some ⟨g, 0, none⟩) m.length cap) (fixK m (k + 1))) :=
          ⟨_, cap, by rw [fixK_len m (by omega)], by rw [fixK_len m (by omega)]; exact hmc, .inr ⟨g, 0, rfl, by rw [fixK_succ m hlt]; exact HF.out, by simpa [World.setCell] using hg2⟩⟩
        have HB2 : Hid (Below w.heap.size w ((w1.setCell ⟨g, k * 4 + 1, none⟩ (.string ⟨#[]⟩)).setCell ⟨g, k * 4 + 3, none⟩ (.bool false))) := (HBW.out.setCell (p := ⟨g, k * 4 + 1, none⟩) hgw _).setCell (p := ⟨g, k * 4 + 3, none⟩) hgw _
        clear HF t9 ho hroom hb1 HB HBW H1 hlen hk2 hLc hcm hnm
        generalize bs m[k].name = z0 at *
        generalize bs m[k].value = z1 at *
        generalize m[k].user = z2 at *
        generalize m[k].set = z3 at *
        go_wp2
        go_roundg (m.length - (k + 1))
        case measure => omega
        case rel => exact ⟨k + 1, _, cap, by omega, by omega, by go_num, rfl, HR2, HB2⟩
    · obtain rfl : k = m.length := by omega
      have HM : Hid (RdV wr (.slice a m.length c) (m.map fix)) := by
        have := HR.out
        rw [fixK_all] at this
        exact this
      clear HCl HR
      go_wp2_with fail
      refine (HWM.out wr a c HM.out).mono ?_
      rintro e w1 ⟨rfl, hb1⟩
      have HB1 := Hid.mk' (HB.out.trans (hb1.mono hbs))
      have hs1 := HB1.out.size
      clear hb1 HB HWM HM
      go_wp2_with fail
      refine (HWL.out w1 HB1.out).mono ?_
      rintro e w2 ⟨rfl, hb2⟩
      have HB2 := Hid.mk' (HB1.out.trans (hb2.mono hs1))
      have hs2 := HB2.out.size
      clear hb2 HB1 HWL
      go_wp2_with fail
      refine (HL.out w2).mono ?_
      rintro e w3 ⟨rfl, hb3⟩
      have HB3 := Hid.mk' (HB2.out.trans (hb3.mono hs2))
      have hs3 := HB3.out.size
      clear hb3 HB2
      go_wp2_with fail
      refine (HL.out w3).mono ?_
      rintro e w4 ⟨rfl, hb4⟩
      have HB4 := Hid.mk' (HB3.out.trans (hb4.mono hs3))
      clear hb4 HB3
      go_wp2
      go_ret
      exact ⟨rfl, HB4.out⟩

set_option maxHeartbeats 16000000 in
set_option maxRecDepth 100000 in
theorem Told_c (w : World) (v v2 : Value) (l m : List Vr) (hv : RdV w v l) (hv2 : RdV w v2 m) (hn : l.length * 40 ≤ 140737488355328) (hm : m.length * 40 ≤ 140737488355328) (h : chk (m.map fix) = 0) (h2 : chk l = 0) (h3 : 4000 < (txt (m.map fix)).length) :
    Calls Try.prog 5 #[v, v2] w fun e w' => e = .returned (.bool true) ∧ Below w.heap.size w w' := by
  have HCl : Hid (∀ W a c k, k ≤ m.length → RdV W (.slice a m.length c) (fixK m k) → Calls Try.prog 11 #[.slice a m.length c] W fun e w' => ∃ ad cap, e = .returned (.slice ad m.length cap) ∧ OwnV w' W.heap.size ad cap (fixK m k) ∧ Below W.heap.size W w') := fun W a c k hk hR => by
    have hl := fixK_len m hk
    have := Clone_any W _ _ hR (by rw [hl]; exact hm)
    rw [hl] at this
    exact this
  have HWM : Hid (∀ W a c, RdV W (.slice a m.length c) (m.map fix) → _) := fun W a c h => Write_any W (.slice a m.length c) (m.map fix) h (by rw [List.length_map]; omega)
  have HWL : Hid (∀ W, Below w.heap.size w W → _) := fun W hW => Write_any W v l (hv.below hW (Nat.le_refl _)) (by omega)
  have HL := Hid.mk' lives_any
  have HV := Hid.mk' hv
  rw [writeT_ok h] at HWM
  rw [writeT_ok h2] at HWL
  dsimp only at HWM HWL
  have hTz : (4000 : Int) < ((bs (txt (m.map fix))).size : Int) := by rw [bs_size]; omega
  generalize bs (txt (m.map fix)) = T at *
  generalize bs (txt l) = T2 at *
  obtain ⟨a0, c0, rfl, hc0, hr0⟩ := hv
  have HV2 := Hid.mk' hv2
  obtain ⟨a2, c2, rfl, hc2, hr2⟩ := hv2
  have HST : Hid (FState w m m.length (.slice a2 m.length c2) (.int .i64 0) w) := ⟨0, a2, c2, Nat.zero_le _, by omega, rfl, rfl, by rw [fixK_zero]; exact HV2, Below.refl _ _⟩
  clear hr0 hr2 HV2
  go_enter Try.func5, Try.ntmps5
  go_wp2_with fail
  go_loopg [1, 17] m.length (fun g s1 s17 wr => FState w m g s1 s17 wr)
  case atStart => exact HST.out
  case round =>
    obtain ⟨k, a, c, hk, hg, rfl, rfl, HR, HB⟩ := hrel
    clear HST
    have hbs := HB.out.size
    by_cases hlt : k < m.length
    · clear HWM HWL HL HV
      have H1 := Hid.mk' (HCl.out wr a c k (by omega) HR.out)
      clear HCl HR
      go_wp2_with fail
      refine H1.out.mono ?_
      rintro e w1 ⟨ad, cap, rfl, ho, hb1⟩
      have hlen := fixK_len m (Nat.le_of_lt hlt)
      have hk2 : k < (fixK m k).length := by omega
      obtain ⟨g, rfl⟩ : ∃ g, ad = some ⟨g, 0, none⟩ := by
        rcases ho.shape with ⟨_, _, e⟩ | h
        · rw [e] at hk2; simp at hk2
        · exact h
      obtain ⟨hg1, hg2, hLc, hcm, hroom⟩ := ho.room
      have hRd := ho.rd
      rw [hlen] at hRd
      obtain ⟨a9, c9, e9, hc9, hr9⟩ := hRd
      simp only [Value.slice.injEq] at e9
      obtain ⟨rfl, hee, rfl⟩ := e9
      clear hee
      rcases hr9 with h0 | ⟨b9, o9, e9, t9, hb9⟩
      · rw [h0] at hk2; simp at hk2
      simp only [Option.some.injEq, Addr.mk.injEq, and_true] at e9
      obtain ⟨rfl, rfl⟩ := e9
      have hcell := t9 k hk2
      rw [fixK_at m hlt hk2, Nat.zero_add] at hcell
      obtain ⟨q0, q1, q2, q3⟩ := hcell
      have f0 := (hroom.cell (j := k * 4) (by omega)).2
      have f1 := (hroom.cell (j := k * 4 + 1) (by omega)).2
      have f3 := (hroom.cell (j := k * 4 + 3) (by omega)).2
      have HBW := Hid.mk' (HB.out.trans (hb1.mono hbs))
      have hgw : w.heap.size ≤ g := by omega
      have hkc : k < cap := by omega
      have hmc : m.length ≤ cap := by omega
      by_cases hnm : m[k].name = []
      · have hE : (bs m[k].name).toList.isEmpty = true := by rw [bs_list, hnm]; rfl
        have HF := Hid.mk' (fix_setx (w := w1) (g := g) (k := k) t9 hk2 (fix m[k]) (by rw [fixK_at m hlt hk2]; unfold fix; rw [if_pos hnm]))
        have HR2 : Hid (RdV (((w1.setCell ⟨g, k * 4, none⟩ (.string ⟨#[120]⟩)).setCell ⟨g, k * 4 + 1, none⟩ (.string ⟨#[]⟩)).setCell ⟨g, k * 4 + 3, none⟩ (.bool false)) (.slice (some ⟨g, 0, none⟩) m.length cap) (fixK m (k + 1))) :=
          ⟨_, cap, by rw [fixK_len m (by omega)], by rw [fixK_len m (by omega)]; exact hmc, .inr ⟨g, 0, rfl, by rw [fixK_succ m hlt]; exact HF.out, by simpa [World.setCell] using hg2⟩⟩
        have HB2 : Hid (Below w.heap.size w (((w1.setCell ⟨g, k * 4, none⟩ (.string ⟨#[120]⟩)).setCell ⟨g, k * 4 + 1, none⟩ (.string ⟨#[]⟩)).setCell ⟨g, k * 4 + 3, none⟩ (.bool false))) := ((HBW.out.setCell (p := ⟨g, k * 4, none⟩) hgw _).setCell (p := ⟨g, k * 4 + 1, none⟩) hgw _).setCell (p := ⟨g, k * 4 + 3, none⟩) hgw _
        clear HF t9 ho hroom hb1 HB HBW H1 hlen hk2 hLc hcm hnm
        generalize bs m[k].name = z0 at *
        generalize bs m[k].value = z1 at *
        generalize m[k].user = z2 at *
        generalize m[k].set = z3 at *
        go_wp2
        go_roundg (m.length - (k + 1))
        case measure => omega
        case rel => exact ⟨k + 1, _, cap, by omega, by omega, by go_num, rfl, HR2, HB2⟩
      · have hE : (bs m[k].name).toList.isEmpty = false := by
          rw [bs_list]
          cases hv : m[k].name with
          | nil => exact absurd hv hnm
          | cons a t => rfl
        have HF := Hid.mk' (fix_set (w := w1) (g := g) (k := k) t9 hk2 (fix m[k]) (by rw [fixK_at m hlt hk2]; unfold fix; rw [if_neg hnm]))
        have HR2 : Hid (RdV ((w1.setCell ⟨g, k * 4 + 1, none⟩ (.string ⟨#[]⟩)).setCell ⟨g, k * 4 + 3, none⟩ (.bool false)) (.slice (some ⟨g, 0, none⟩) m.length cap) (fixK m (k + 1))) :=
          ⟨_, cap, by rw [fixK_len m (by omega)], by rw [fixK_len m (by omega)]; exact hmc, .inr ⟨g, 0, rfl, by rw [fixK_succ m hlt]; exact HF.out, by simpa [World.setCell] using hg2⟩⟩
        have HB2 : Hid (Below w.heap.size w ((w1.setCell ⟨g, k * 4 + 1, none⟩ (.string ⟨#[]⟩)).setCell ⟨g, k * 4 + 3, none⟩ (.bool false))) := (HBW.out.setCell (p := ⟨g, k * 4 + 1, none⟩) hgw _).setCell (p := ⟨g, k * 4 + 3, none⟩) hgw _
        clear HF t9 ho hroom hb1 HB HBW H1 hlen hk2 hLc hcm hnm
        generalize bs m[k].name = z0 at *
        generalize bs m[k].value = z1 at *
        generalize m[k].user = z2 at *
        generalize m[k].set = z3 at *
        go_wp2
        go_roundg (m.length - (k + 1))
        case measure => omega
        case rel => exact ⟨k + 1, _, cap, by omega, by omega, by go_num, rfl, HR2, HB2⟩
    · obtain rfl : k = m.length := by omega
      have HM : Hid (RdV wr (.slice a m.length c) (m.map fix)) := by
        have := HR.out
        rw [fixK_all] at this
        exact this
      clear HCl HR
      go_wp2_with fail
      refine (HWM.out wr a c HM.out).mono ?_
      rintro e w1 ⟨rfl, hb1⟩
      have HB1 := Hid.mk' (HB.out.trans (hb1.mono hbs))
      have hs1 := HB1.out.size
      clear hb1 HB HWM HM
      go_wp2_with fail
      refine (HWL.out w1 HB1.out).mono ?_
      rintro e w2 ⟨rfl, hb2⟩
      have HB2 := Hid.mk' (HB1.out.trans (hb2.mono hs1))
      have hs2 := HB2.out.size
      clear hb2 HB1 HWL
      go_wp2_with fail
      refine (HL.out w2).mono ?_
      rintro e w3 ⟨rfl, hb3⟩
      have HB3 := Hid.mk' (HB2.out.trans (hb3.mono hs2))
      have hs3 := HB3.out.size
      clear hb3 HB2
      go_wp2_with fail
      refine (HL.out w3).mono ?_
      rintro e w4 ⟨rfl, hb4⟩
      have HB4 := Hid.mk' (HB3.out.trans (hb4.mono hs3))
      clear hb4 HB3
      go_wp2
      go_ret
      exact ⟨rfl, HB4.out⟩

set_option maxHeartbeats 16000000 in
set_option maxRecDepth 100000 in
theorem Told_d1 (w : World) (v v2 : Value) (l m : List Vr) (hv : RdV w v l) (hv2 : RdV w v2 m) (hn : l.length * 40 ≤ 140737488355328) (hm : m.length * 40 ≤ 140737488355328) (U : List UInt8) (h : chk (m.map fix) = 0) (h2 : chk l = 0) (h3 : (txt (m.map fix)).length ≤ 4000) (ht : answerT l (1 :: txt (m.map fix)) = (0 :: U, 0)) (h4 : 4096 < U.length) :
    Calls Try.prog 5 #[v, v2] w fun e w' => e = .returned (.bool true) ∧ Below w.heap.size w w' := by
  have HCl : Hid (∀ W a c k, k ≤ m.length → RdV W (.slice a m.length c) (fixK m k) → Calls Try.prog 11 #[.slice a m.length c] W fun e w' => ∃ ad cap, e = .returned (.slice ad m.length cap) ∧ OwnV w' W.heap.size ad cap (fixK m k) ∧ Below W.heap.size W w') := fun W a c k hk hR => by
    have hl := fixK_len m hk
    have := Clone_any W _ _ hR (by rw [hl]; exact hm)
    rw [hl] at this
    exact this
  have HWM : Hid (∀ W a c, RdV W (.slice a m.length c) (m.map fix) → _) := fun W a c h => Write_any W (.slice a m.length c) (m.map fix) h (by rw [List.length_map]; omega)
  have HWL : Hid (∀ W, Below w.heap.size w W → _) := fun W hW => Write_any W v l (hv.below hW (Nat.le_refl _)) (by omega)
  have HL := Hid.mk' lives_any
  have HV := Hid.mk' hv
  rw [writeT_ok h] at HWM
  rw [writeT_ok h2] at HWL
  dsimp only at HWM HWL
  have HAn : Hid (∀ W, Below w.heap.size w W → _) := fun W hW => Answer_any W v l (1 :: txt (m.map fix)) (hv.below hW (Nat.le_refl _)) (by omega) (by rw [List.length_cons]; omega)
  rw [ht] at HAn
  dsimp only at HAn
  have hTz : ¬ (4000 : Int) < ((bs (txt (m.map fix))).size : Int) := by rw [bs_size]; omega
  have hTz2 : (bs (txt (m.map fix))).size ≤ 4000 := by rw [bs_size]; omega
  have hcat : (⟨#[1]⟩ : ByteArray) ++ bs (txt (m.map fix)) = bs (1 :: txt (m.map fix)) := bs_app [1] _
  generalize bs (1 :: txt (m.map fix)) = T1 at *
  generalize bs (txt (m.map fix)) = T at *
  generalize bs (txt l) = T2 at *
  have hAz : (bs (0 :: U)).size = U.length + 1 := by rw [bs_size]; rfl
  have hA0 : ∀ h : 0 < (bs (0 :: U)).size, (bs (0 :: U))[0]'h = 0 := fun _ => rfl
  have hAE : (bs (0 :: U)).toList.isEmpty = false := by rw [bs_list]; rfl
  have hAX : (bs (0 :: U)).extract 1 (U.length + 1) = bs U := by rw [← hAz, bs_drop]; rfl
  generalize bs (0 :: U) = A at *
  have hA0 := hA0 (by omega)
  have h4' : (4097 : Int) < (U.length : Int) + 1 := by omega
  obtain ⟨a0, c0, rfl, hc0, hr0⟩ := hv
  have HV2 := Hid.mk' hv2
  obtain ⟨a2, c2, rfl, hc2, hr2⟩ := hv2
  have HST : Hid (FState w m m.length (.slice a2 m.length c2) (.int .i64 0) w) := ⟨0, a2, c2, Nat.zero_le _, by omega, rfl, rfl, by rw [fixK_zero]; exact HV2, Below.refl _ _⟩
  clear hr0 hr2 HV2
  go_enter Try.func5, Try.ntmps5
  go_wp2_with fail
  go_loopg [1, 17] m.length (fun g s1 s17 wr => FState w m g s1 s17 wr)
  case atStart => exact HST.out
  case round =>
    obtain ⟨k, a, c, hk, hg, rfl, rfl, HR, HB⟩ := hrel
    clear HST
    have hbs := HB.out.size
    by_cases hlt : k < m.length
    · clear HWM HWL HL HV HAn
      have H1 := Hid.mk' (HCl.out wr a c k (by omega) HR.out)
      clear HCl HR
      go_wp2_with fail
      refine H1.out.mono ?_
      rintro e w1 ⟨ad, cap, rfl, ho, hb1⟩
      have hlen := fixK_len m (Nat.le_of_lt hlt)
      have hk2 : k < (fixK m k).length := by omega
      obtain ⟨g, rfl⟩ : ∃ g, ad = some ⟨g, 0, none⟩ := by
        rcases ho.shape with ⟨_, _, e⟩ | h
        · rw [e] at hk2; simp at hk2
        · exact h
      obtain ⟨hg1, hg2, hLc, hcm, hroom⟩ := ho.room
      have hRd := ho.rd
      rw [hlen] at hRd
      obtain ⟨a9, c9, e9, hc9, hr9⟩ := hRd
      simp only [Value.slice.injEq] at e9
      obtain ⟨rfl, hee, rfl⟩ := e9
      clear hee
      rcases hr9 with h0 | ⟨b9, o9, e9, t9, hb9⟩
      · rw [h0] at hk2; simp at hk2
      simp only [Option.some.injEq, Addr.mk.injEq, and_true] at e9
      obtain ⟨rfl, rfl⟩ := e9
      have hcell := t9 k hk2
      rw [fixK_at m hlt hk2, Nat.zero_add] at hcell
      obtain ⟨q0, q1, q2, q3⟩ := hcell
      have f0 := (hroom.cell (j := k * 4) (by omega)).2
      have f1 := (hroom.cell (j := k * 4 + 1) (by omega)).2
      have f3 := (hroom.cell (j := k * 4 + 3) (by omega)).2
      have HBW := Hid.mk' (HB.out.trans (hb1.mono hbs))
      have hgw : w.heap.size ≤ g := by omega
      have hkc : k < cap := by omega
      have hmc : m.length ≤ cap := by omega
      by_cases hnm : m[k].name = []
      · have hE : (bs m[k].name).toList.isEmpty = true := by rw [bs_list, hnm]; rfl
        have HF := Hid.mk' (fix_setx (w := w1) (g := g) (k := k) t9 hk2 (fix m[k]) (by rw [fixK_at m hlt hk2]; unfold fix; rw [if_pos hnm]))
        have HR2 : Hid (RdV (((w1.setCell ⟨g, k * 4, none⟩ (.string ⟨#[120]⟩)).setCell ⟨g, k * 4 + 1, none⟩ (.string ⟨#[]⟩)).setCell ⟨g, k * 4 + 3, none⟩ (.bool false)) (.slice (some ⟨g, 0, none⟩) m.length cap) (fixK m (k + 1))) :=
          ⟨_, cap, by rw [fixK_len m (by omega)], by rw [fixK_len m (by omega)]; exact hmc, .inr ⟨g, 0, rfl, by rw [fixK_succ m hlt]; exact HF.out, by simpa [World.setCell] using hg2⟩⟩
        have HB2 : Hid (Below w.heap.size w (((w1.setCell ⟨g, k * 4, none⟩ (.string ⟨#[120]⟩)).setCell ⟨g, k * 4 + 1, none⟩ (.string ⟨#[]⟩)).setCell ⟨g, k * 4 + 3, none⟩ (.bool false))) := ((HBW.out.setCell (p := ⟨g, k * 4, none⟩) hgw _).setCell (p := ⟨g, k * 4 + 1, none⟩) hgw _).setCell (p := ⟨g, k * 4 + 3, none⟩) hgw _
        clear HF t9 ho hroom hb1 HB HBW H1 hlen hk2 hLc hcm hnm
        generalize bs m[k].name = z0 at *
        generalize bs m[k].value = z1 at *
        generalize m[k].user = z2 at *
        generalize m[k].set = z3 at *
        go_wp2
        go_roundg (m.length - (k + 1))
        case measure => omega
        case rel => exact ⟨k + 1, _, cap, by omega, by omega, by go_num, rfl, HR2, HB2⟩
      · have hE : (bs m[k].name).toList.isEmpty = false := by
          rw [bs_list]
          cases hv : m[k].name with
          | nil => exact absurd hv hnm
          | cons a t => rfl
        have HF := Hid.mk' (fix_set (w := w1) (g := g) (k := k) t9 hk2 (fix m[k]) (by rw [fixK_at m hlt hk2]; unfold fix; rw [if_neg hnm]))
        have HR2 : Hid (RdV ((w1.setCell ⟨g, k * 4 + 1, none⟩ (.string ⟨#[]⟩)).setCell ⟨g, k * 4 + 3, none⟩ (.bool false)) (.slice (some ⟨g, 0, none⟩) m.length cap) (fixK m (k + 1))) :=
          ⟨_, cap, by rw [fixK_len m (by omega)], by rw [fixK_len m (by omega)]; exact hmc, .inr ⟨g, 0, rfl, by rw [fixK_succ m hlt]; exact HF.out, by simpa [World.setCell] using hg2⟩⟩
        have HB2 : Hid (Below w.heap.size w ((w1.setCell ⟨g, k * 4 + 1, none⟩ (.string ⟨#[]⟩)).setCell ⟨g, k * 4 + 3, none⟩ (.bool false))) := (HBW.out.setCell (p := ⟨g, k * 4 + 1, none⟩) hgw _).setCell (p := ⟨g, k * 4 + 3, none⟩) hgw _
        clear HF t9 ho hroom hb1 HB HBW H1 hlen hk2 hLc hcm hnm
        generalize bs m[k].name = z0 at *
        generalize bs m[k].value = z1 at *
        generalize m[k].user = z2 at *
        generalize m[k].set = z3 at *
        go_wp2
        go_roundg (m.length - (k + 1))
        case measure => omega
        case rel => exact ⟨k + 1, _, cap, by omega, by omega, by go_num, rfl, HR2, HB2⟩
    · obtain rfl : k = m.length := by omega
      have HM : Hid (RdV wr (.slice a m.length c) (m.map fix)) := by
        have := HR.out
        rw [fixK_all] at this
        exact this
      clear HCl HR
      go_wp2_with fail
      refine (HWM.out wr a c HM.out).mono ?_
      rintro e w1 ⟨rfl, hb1⟩
      have HB1 := Hid.mk' (HB.out.trans (hb1.mono hbs))
      have hs1 := HB1.out.size
      have HM1 := Hid.mk' (HM.out.later hb1)
      clear hb1 HB HWM HM
      go_wp2_with fail
      refine (HWL.out w1 HB1.out).mono ?_
      rintro e w2 ⟨rfl, hb2⟩
      have HB2 := Hid.mk' (HB1.out.trans (hb2.mono hs1))
      have hs2 := HB2.out.size
      have HM2 := Hid.mk' (HM1.out.later hb2)
      clear hb2 HB1 HWL HM1
      go_wp2_with fail
      refine (HL.out w2).mono ?_
      rintro e w3 ⟨rfl, hb3⟩
      have HB3 := Hid.mk' (HB2.out.trans (hb3.mono hs2))
      have hs3 := HB3.out.size
      have HM3 := Hid.mk' (HM2.out.later hb3)
      clear hb3 HB2 HM2
      go_wp2_with fail
      refine (HAn.out w3 HB3.out).mono ?_
      rintro e w4 ⟨rfl, hb4⟩
      have HB4 := Hid.mk' (HB3.out.trans (hb4.mono hs3))
      have hs4 := HB4.out.size
      have HM4 := Hid.mk' (HM3.out.later hb4)
      clear hb4 HB3 HAn HM3
      go_wp2
      go_ret
      exact ⟨rfl, HB4.out⟩

set_option maxHeartbeats 16000000 in
set_option maxRecDepth 100000 in
theorem Told_d2 (w : World) (v v2 : Value) (l m : List Vr) (hv : RdV w v l) (hv2 : RdV w v2 m) (hn : l.length * 40 ≤ 140737488355328) (hm : m.length * 40 ≤ 140737488355328) (U : List UInt8) (h : chk (m.map fix) = 0) (h2 : chk l = 0) (h3 : (txt (m.map fix)).length ≤ 4000) (ht : answerT l (1 :: txt (m.map fix)) = (0 :: U, 0)) (h4 : U.length ≤ 4096) (hu : readT U = (l, 0)) (hm0 : m = []) :
    Calls Try.prog 5 #[v, v2] w fun e w' => e = .returned (.bool true) ∧ Below w.heap.size w w' := by
  have HCl : Hid (∀ W a c k, k ≤ m.length → RdV W (.slice a m.length c) (fixK m k) → Calls Try.prog 11 #[.slice a m.length c] W fun e w' => ∃ ad cap, e = .returned (.slice ad m.length cap) ∧ OwnV w' W.heap.size ad cap (fixK m k) ∧ Below W.heap.size W w') := fun W a c k hk hR => by
    have hl := fixK_len m hk
    have := Clone_any W _ _ hR (by rw [hl]; exact hm)
    rw [hl] at this
    exact this
  have HWM : Hid (∀ W a c, RdV W (.slice a m.length c) (m.map fix) → _) := fun W a c h => Write_any W (.slice a m.length c) (m.map fix) h (by rw [List.length_map]; omega)
  have HWL : Hid (∀ W, Below w.heap.size w W → _) := fun W hW => Write_any W v l (hv.below hW (Nat.le_refl _)) (by omega)
  have HL := Hid.mk' lives_any
  have HV := Hid.mk' hv
  rw [writeT_ok h] at HWM
  rw [writeT_ok h2] at HWL
  dsimp only at HWM HWL
  have HAn : Hid (∀ W, Below w.heap.size w W → _) := fun W hW => Answer_any W v l (1 :: txt (m.map fix)) (hv.below hW (Nat.le_refl _)) (by omega) (by rw [List.length_cons]; omega)
  rw [ht] at HAn
  dsimp only at HAn
  have hTz : ¬ (4000 : Int) < ((bs (txt (m.map fix))).size : Int) := by rw [bs_size]; omega
  have hTz2 : (bs (txt (m.map fix))).size ≤ 4000 := by rw [bs_size]; omega
  have hcat : (⟨#[1]⟩ : ByteArray) ++ bs (txt (m.map fix)) = bs (1 :: txt (m.map fix)) := bs_app [1] _
  generalize bs (1 :: txt (m.map fix)) = T1 at *
  generalize bs (txt (m.map fix)) = T at *
  generalize bs (txt l) = T2 at *
  have hAz : (bs (0 :: U)).size = U.length + 1 := by rw [bs_size]; rfl
  have hA0 : ∀ h : 0 < (bs (0 :: U)).size, (bs (0 :: U))[0]'h = 0 := fun _ => rfl
  have hAE : (bs (0 :: U)).toList.isEmpty = false := by rw [bs_list]; rfl
  have hAX : (bs (0 :: U)).extract 1 (U.length + 1) = bs U := by rw [← hAz, bs_drop]; rfl
  have HRd : Hid (∀ W, _) := fun W => Read_any U W (by omega)
  rw [hu] at HRd
  dsimp only at HRd
  have hl20 : l.length ≤ 20 := (chk_zero h2).1
  have HEq : Hid (∀ W ad cap, Below w.heap.size w W → OwnV W w.heap.size ad cap l → Calls Try.prog 9 #[.slice ad l.length cap, v] W fun e w' => e = .returned (.bool true) ∧ ∃ q, w' = W.drewN q) := fun W ad cap h1 h2 => by
    have := Equal_any W _ v l l h2.rd (hv.below h1 (Nat.le_refl _)) (by omega)
    rw [eqs_self] at this
    exact this
  generalize bs U = U2 at *
  generalize bs (0 :: U) = A at *
  have hA0 := hA0 (by omega)
  have h4' : ¬ (4097 : Int) < (U.length : Int) + 1 := by omega
  have HML0 : Hid (m.length = 0) := Hid.mk' (by rw [hm0]; rfl)
  clear hm0
  obtain ⟨a0, c0, rfl, hc0, hr0⟩ := hv
  have HV2 := Hid.mk' hv2
  obtain ⟨a2, c2, rfl, hc2, hr2⟩ := hv2
  have HST : Hid (FState w m m.length (.slice a2 m.length c2) (.int .i64 0) w) := ⟨0, a2, c2, Nat.zero_le _, by omega, rfl, rfl, by rw [fixK_zero]; exact HV2, Below.refl _ _⟩
  clear hr0 hr2 HV2
  go_enter Try.func5, Try.ntmps5
  go_wp2_with fail
  go_loopg [1, 17] m.length (fun g s1 s17 wr => FState w m g s1 s17 wr)
  case atStart => exact HST.out
  case round =>
    obtain ⟨k, a, c, hk, hg, rfl, rfl, HR, HB⟩ := hrel
    clear HST
    have hbs := HB.out.size
    by_cases hlt : k < m.length
    · clear HWM HWL HL HV HAn HRd HEq
      have H1 := Hid.mk' (HCl.out wr a c k (by omega) HR.out)
      clear HCl HR
      go_wp2_with fail
      refine H1.out.mono ?_
      rintro e w1 ⟨ad, cap, rfl, ho, hb1⟩
      have hlen := fixK_len m (Nat.le_of_lt hlt)
      have hk2 : k < (fixK m k).length := by omega
      obtain ⟨g, rfl⟩ : ∃ g, ad = some ⟨g, 0, none⟩ := by
        rcases ho.shape with ⟨_, _, e⟩ | h
        · rw [e] at hk2; simp at hk2
        · exact h
      obtain ⟨hg1, hg2, hLc, hcm, hroom⟩ := ho.room
      have hRd := ho.rd
      rw [hlen] at hRd
      obtain ⟨a9, c9, e9, hc9, hr9⟩ := hRd
      simp only [Value.slice.injEq] at e9
      obtain ⟨rfl, hee, rfl⟩ := e9
      clear hee
      rcases hr9 with h0 | ⟨b9, o9, e9, t9, hb9⟩
      · rw [h0] at hk2; simp at hk2
      simp only [Option.some.injEq, Addr.mk.injEq, and_true] at e9
      obtain ⟨rfl, rfl⟩ := e9
      have hcell := t9 k hk2
      rw [fixK_at m hlt hk2, Nat.zero_add] at hcell
      obtain ⟨q0, q1, q2, q3⟩ := hcell
      have f0 := (hroom.cell (j := k * 4) (by omega)).2
      have f1 := (hroom.cell (j := k * 4 + 1) (by omega)).2
      have f3 := (hroom.cell (j := k * 4 + 3) (by omega)).2
      have HBW := Hid.mk' (HB.out.trans (hb1.mono hbs))
      have hgw : w.heap.size ≤ g := by omega
      have hkc : k < cap := by omega
      have hmc : m.length ≤ cap := by omega
      by_cases hnm : m[k].name = []
      · have hE : (bs m[k].name).toList.isEmpty = true := by rw [bs_list, hnm]; rfl
        have HF := Hid.mk' (fix_setx (w := w1) (g := g) (k := k) t9 hk2 (fix m[k]) (by rw [fixK_at m hlt hk2]; unfold fix; rw [if_pos hnm]))
        have HR2 : Hid (RdV (((w1.setCell ⟨g, k * 4, none⟩ (.string ⟨#[120]⟩)).setCell ⟨g, k * 4 + 1, none⟩ (.string ⟨#[]⟩)).setCell ⟨g, k * 4 + 3, none⟩ (.bool false)) (.slice (some ⟨g, 0, none⟩) m.length cap) (fixK m (k + 1))) :=
          ⟨_, cap, by rw [fixK_len m (by omega)], by rw [fixK_len m (by omega)]; exact hmc, .inr ⟨g, 0, rfl, by rw [fixK_succ m hlt]; exact HF.out, by simpa [World.setCell] using hg2⟩⟩
        have HB2 : Hid (Below w.heap.size w (((w1.setCell ⟨g, k * 4, none⟩ (.string ⟨#[120]⟩)).setCell ⟨g, k * 4 + 1, none⟩ (.string ⟨#[]⟩)).setCell ⟨g, k * 4 + 3, none⟩ (.bool false))) := ((HBW.out.setCell (p := ⟨g, k * 4, none⟩) hgw _).setCell (p := ⟨g, k * 4 + 1, none⟩) hgw _).setCell (p := ⟨g, k * 4 + 3, none⟩) hgw _
        clear HF t9 ho hroom hb1 HB HBW H1 hlen hk2 hLc hcm hnm
        generalize bs m[k].name = z0 at *
        generalize bs m[k].value = z1 at *
        generalize m[k].user = z2 at *
        generalize m[k].set = z3 at *
        go_wp2
        go_roundg (m.length - (k + 1))
        case measure => omega
        case rel => exact ⟨k + 1, _, cap, by omega, by omega, by go_num, rfl, HR2, HB2⟩
      · have hE : (bs m[k].name).toList.isEmpty = false := by
          rw [bs_list]
          cases hv : m[k].name with
          | nil => exact absurd hv hnm
          | cons a t => rfl
        have HF := Hid.mk' (fix_set (w := w1) (g := g) (k := k) t9 hk2 (fix m[k]) (by rw [fixK_at m hlt hk2]; unfold fix; rw [if_neg hnm]))
        have HR2 : Hid (RdV ((w1.setCell ⟨g, k * 4 + 1, none⟩ (.string ⟨#[]⟩)).setCell ⟨g, k * 4 + 3, none⟩ (.bool false)) (.slice (some ⟨g, 0, none⟩) m.length cap) (fixK m (k + 1))) :=
          ⟨_, cap, by rw [fixK_len m (by omega)], by rw [fixK_len m (by omega)]; exact hmc, .inr ⟨g, 0, rfl, by rw [fixK_succ m hlt]; exact HF.out, by simpa [World.setCell] using hg2⟩⟩
        have HB2 : Hid (Below w.heap.size w ((w1.setCell ⟨g, k * 4 + 1, none⟩ (.string ⟨#[]⟩)).setCell ⟨g, k * 4 + 3, none⟩ (.bool false))) := (HBW.out.setCell (p := ⟨g, k * 4 + 1, none⟩) hgw _).setCell (p := ⟨g, k * 4 + 3, none⟩) hgw _
        clear HF t9 ho hroom hb1 HB HBW H1 hlen hk2 hLc hcm hnm
        generalize bs m[k].name = z0 at *
        generalize bs m[k].value = z1 at *
        generalize m[k].user = z2 at *
        generalize m[k].set = z3 at *
        go_wp2
        go_roundg (m.length - (k + 1))
        case measure => omega
        case rel => exact ⟨k + 1, _, cap, by omega, by omega, by go_num, rfl, HR2, HB2⟩
    · obtain rfl : k = m.length := by omega
      have HM : Hid (RdV wr (.slice a m.length c) (m.map fix)) := by
        have := HR.out
        rw [fixK_all] at this
        exact this
      clear HCl HR
      go_wp2_with fail
      refine (HWM.out wr a c HM.out).mono ?_
      rintro e w1 ⟨rfl, hb1⟩
      have HB1 := Hid.mk' (HB.out.trans (hb1.mono hbs))
      have hs1 := HB1.out.size
      have HM1 := Hid.mk' (HM.out.later hb1)
      clear hb1 HB HWM HM
      go_wp2_with fail
      refine (HWL.out w1 HB1.out).mono ?_
      rintro e w2 ⟨rfl, hb2⟩
      have HB2 := Hid.mk' (HB1.out.trans (hb2.mono hs1))
      have hs2 := HB2.out.size
      have HM2 := Hid.mk' (HM1.out.later hb2)
      clear hb2 HB1 HWL HM1
      go_wp2_with fail
      refine (HL.out w2).mono ?_
      rintro e w3 ⟨rfl, hb3⟩
      have HB3 := Hid.mk' (HB2.out.trans (hb3.mono hs2))
      have hs3 := HB3.out.size
      have HM3 := Hid.mk' (HM2.out.later hb3)
      clear hb3 HB2 HM2
      go_wp2_with fail
      refine (HAn.out w3 HB3.out).mono ?_
      rintro e w4 ⟨rfl, hb4⟩
      have HB4 := Hid.mk' (HB3.out.trans (hb4.mono hs3))
      have hs4 := HB4.out.size
      have HM4 := Hid.mk' (HM3.out.later hb4)
      clear hb4 HB3 HAn HM3
      go_wp2_with fail
      refine (HRd.out w4).mono ?_
      rintro e w5 ⟨ad5, cap5, rfl, ho5, hb5⟩
      have HB5 := Hid.mk' (HB4.out.trans (hb5.mono hs4))
      have hs5 := HB5.out.size
      have HM5 := Hid.mk' (HM4.out.later hb5)
      have HO5 := Hid.mk' ho5
      clear hb5 HB4 HRd HM4 ho5
      have HE5 := Hid.mk' (HEq.out w5 ad5 cap5 HB5.out (OwnR.low HO5.out hs4))
      clear HEq HO5 HM5
      have hml0' : ((m.length : Int) == 0) = true := by rw [HML0.out]; rfl
      clear HML0
      generalize m.length = nm at *
      go_wp2_with fail
      refine HE5.out.mono ?_
      rintro e w6 ⟨rfl, q, hw6⟩
      have HB6 : Hid (Below w.heap.size w w6) := by rw [hw6]; exact below_drewN HB5.out q
      clear hw6 HE5 HB5
      go_wp2
      go_ret
      exact ⟨rfl, HB6.out⟩

end Go.Proofs.Ytbfiompbngpjoaa.E
