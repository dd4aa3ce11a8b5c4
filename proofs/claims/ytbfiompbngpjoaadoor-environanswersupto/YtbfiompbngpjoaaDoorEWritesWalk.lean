/-
  Contract of farref.WantedVars; conditions: an int tells the text's length, and the variable internal/bytealg.MaxLen holds some int.
-/
import Derived.Test.YtbfiompbngpjoaaDoorERead2
namespace Go.Proofs.YtbfiompbngpjoaaDoor.E
open Go.RowKit Go.Lib Go.Proofs.YtbfiompbngpjoaaDoor Go.Proofs.YtbfiompbngpjoaaDoor.W Go.Proofs.YtbfiompbngpjoaaDoor.Q Go.Proofs.YtbfiompbngpjoaaDoor.C

set_option maxHeartbeats 8000000 in
set_option maxRecDepth 100000 in
theorem WantedVars_any (s : List UInt8) (m : Int) (w : World) (hz : s.length ≤ 9223372036854775807) (hm : w.cell? ⟨0, 0, none⟩ = some (.int .i64 m)) :
    Calls Tryd.prog 10 #[.string (bs s)] w fun e w' => ∃ ad cap, e = .returned (.tuple #[.slice ad (wantedT s).1.length cap, .int .i64 (wantedT s).2]) ∧ OwnV w' w.heap.size ad cap (wantedT s).1 ∧ Below w.heap.size w w' := by
  have H1 := Hid.mk' (ReadVars_any s m w hz hm)
  have hsm := readT_small s
  rcases (by rcases readT_cases s with ⟨h, _⟩ | h | ⟨l, h, _⟩; exact .inl ⟨2, by rw [h], by decide⟩; exact .inl ⟨4, by rw [h], by decide⟩; exact .inr (by rw [h]) : (∃ r : Int, (readT s).2 = r ∧ (r == 0) = false) ∨ (readT s).2 = 0) with ⟨r, h, hr⟩ | h
  · rw [wantedT_err (by intro e; rw [h] at e; subst e; cases hr)]
    have hl0 : (readT s).1 = [] := by
      rcases readT_cases s with ⟨h1, _⟩ | h1 | ⟨l, h1, _⟩
      · rw [h1]
      · rw [h1]
      · rw [h1] at h; simp only at h; subst h; cases hr
    rw [hl0, h] at H1
    rw [h]
    clear hl0 hsm h
    generalize bs s = S at *
    go_enter Tryd.func10, Tryd.ntmps10
    go_wp2_with fail
    refine H1.out.mono ?_
    rintro e w1 ⟨ad, cap, rfl, ho1, hb1⟩
    have HB1 := Hid.mk' hb1
    have HV1 := Hid.mk' ho1
    clear hb1 H1 ho1
    go_wp2_with fail
    go_loopg [15] 0 (fun g s wr => s = .int .i64 0 ∧ wr = w1)
    case atStart => exact ⟨rfl, rfl⟩
    case round =>
      obtain ⟨rfl, rfl⟩ := hrel
      go_wp2
      go_ret2
      exact ⟨ad, cap, rfl, HV1.out, HB1.out⟩
  · have HS : Hid (∀ k (hk : k < (readT s).1.length), (readT s).1[k].set = true → wantedT s = ([], 4)) := fun k hk hs => wantedT_set h (List.getElem_mem hk) hs
    have HO : Hid ((∀ k (hk : k < (readT s).1.length), (readT s).1[k].set = false) → wantedT s = readT s) := fun hh => wantedT_ok h (fun x hx => by
      obtain ⟨k, hk, e⟩ := List.mem_iff_getElem.1 hx
      rw [← e]
      exact hh k hk)
    rw [h] at H1
    generalize hR : readT s = R at *
    obtain ⟨l, r⟩ := R
    simp only at h hsm HS HO H1
    subst h
    generalize wantedT s = R2 at *
    obtain ⟨R1, R2⟩ := R2
    simp only at HS HO ⊢
    generalize bs s = S at *
    clear hR
    go_enter Tryd.func10, Tryd.ntmps10
    go_wp2_with fail
    refine H1.out.mono ?_
    rintro e w1 ⟨ad, cap, rfl, ho1, hb1⟩
    have HB1 := Hid.mk' hb1
    have HV1 := Hid.mk' ho1
    have hbs := HB1.out.size
    clear hb1 H1 ho1
    go_wp2_with fail
    go_loopg [15] l.length (fun g s wr => VState w1 l Vr.set g s wr)
    case atStart => exact ⟨0, Nat.zero_le _, by omega, rfl, fun a h => absurd h (Nat.not_lt_zero a), Below.refl _ _⟩
    case round =>
      obtain ⟨k, hk, hg, rfl, HA, HB⟩ := hrel
      have HB2 := Hid.mk' (HB1.out.trans (HB.out.mono hbs))
      by_cases hlt : k < l.length
      · obtain ⟨a0, c0, e0, hc0, hr0⟩ := HV1.out.rd
        simp only [Value.slice.injEq] at e0
        obtain ⟨rfl, _, rfl⟩ := e0
        rcases hr0 with h0 | ⟨b, o, rfl, t, hb⟩
        · subst h0; simp at hlt
        obtain ⟨t0, t1, t2, t3⟩ := (t k hlt).below HB.out hb
        have HB3 := fun cs => Hid.mk' (HB.out.alloc HB.out.size (.cells cs 30))
        have HB4 := fun cs => Hid.mk' (HB2.out.alloc HB2.out.size (.cells cs 30))
        cases hs : l[k].set with
        | true =>
          have er := HS.out k hlt hs
          simp only [Prod.mk.injEq] at er
          obtain ⟨rfl, rfl⟩ := er
          rw [hs] at t3
          clear HS HO HA t HV1 hs
          generalize bs l[k].name = x0 at *
          generalize bs l[k].value = x1 at *
          generalize l[k].user = x2 at *
          go_wp2
          go_ret2
          exact ⟨none, 0, rfl, OwnV.nil _ _, (HB4 _).out⟩
        | false =>
          have HA2 := Hid.mk' (more HA.out hlt hs)
          rw [hs] at t3
          clear HS HO HA t HV1 hs
          generalize bs l[k].name = x0 at *
          generalize bs l[k].value = x1 at *
          generalize l[k].user = x2 at *
          go_wp2
          go_roundg (l.length - (k + 1))
          case measure => omega
          case rel => exact ⟨k + 1, by omega, by omega, by go_num, HA2, HB3 _⟩
      · obtain rfl : k = l.length := by omega
        have er := HO.out (fun k h => HA.out k h h)
        simp only [Prod.mk.injEq] at er
        obtain ⟨rfl, rfl⟩ := er
        have HV2 := Hid.mk' (HV1.out.below HB.out)
        clear HS HO HA HV1
        go_wp2
        go_ret2
        exact ⟨ad, cap, rfl, HV2.out, HB2.out⟩


set_option maxHeartbeats 16000000 in
set_option maxRecDepth 100000 in
theorem EnvironWrites_any (w : World) (v : Value) (l : List Vr) (s : List UInt8) (m : Int) (hv : RdV w v l) (hn : l.length ≤ 17592186044416) (hz : s.length ≤ 9223372036854775807) (hm : w.cell? ⟨0, 0, none⟩ = some (.int .i64 m)) :
    Calls Tryd.prog 3 #[v, .string (bs s)] w fun e w' => e = .returned (.bool true) ∧ Below w.heap.size w w' := by
  have h00 : 0 < w.heap.size := World.block_lt_of_cell? _ _ hm
  have hmc : ∀ W, Below w.heap.size w W → W.cell? ⟨0, 0, none⟩ = some (.int .i64 m) := fun W hW => (hW.cell (p := ⟨0, 0, none⟩) h00).trans hm
  have H1 := Hid.mk' (Write_any w v l hv hn)
  have H2 : Hid (∀ W, Below w.heap.size w W → _) := fun W hW => VarsText_any W v l m (hv.below hW (Nat.le_refl _)) hn (hmc W hW)
  have H3 : Hid (∀ W, _) := fun W => Read_any s W hz
  have H4 : Hid (∀ W, Below w.heap.size w W → _) := fun W hW => ReadVars_any s m W hz (hmc W hW)
  have H5 : Hid (∀ W, _) := fun W => Wanted_any s W hz
  have H6 : Hid (∀ W, Below w.heap.size w W → _) := fun W hW => WantedVars_any s m W hz (hmc W hW)
  have hl1 := readT_small s
  have hl2 := wantedT_small s
  have HEQ : Hid (∀ (L : List Vr) W ad cap ad' cap', L.length ≤ 20 → OwnV W w.heap.size ad cap L → OwnV W w.heap.size ad' cap' L → Calls Tryd.prog 11 #[.slice ad L.length cap, .slice ad' L.length cap'] W fun e w' => e = .returned (.bool true) ∧ ∃ q, w' = W.drewN q) := fun L W ad cap ad' cap' h1 h2 h3 => by
    have := Equal_any W _ _ L L h2.rd h3.rd (by omega)
    rw [eqs_self] at this
    exact this
  obtain ⟨a0, c0, rfl, hc0, hr0⟩ := hv
  clear hr0 hm hmc
  generalize bs (writeT l).1 = T at *
  generalize (writeT l).2 = eT at *
  generalize readT s = R at *
  obtain ⟨L, r⟩ := R
  generalize wantedT s = Q at *
  obtain ⟨M, k⟩ := Q
  dsimp only at H3 H4 H5 H6 hl1 hl2
  have HE1 := Hid.mk' (fun W ad cap ad' cap' => HEQ.out L W ad cap ad' cap' hl1)
  have HE2 := Hid.mk' (fun W ad cap ad' cap' => HEQ.out M W ad cap ad' cap' hl2)
  generalize bs s = S at *
  clear HEQ hl1 hl2
  go_enter Tryd.func3, Tryd.ntmps3
  go_wp2_with fail
  refine H1.out.mono ?_
  rintro e w1 ⟨rfl, hb1⟩
  have HB1 := Hid.mk' hb1
  have hs1 := HB1.out.size
  clear hb1 H1
  go_wp2_with fail
  refine (H2.out w1 HB1.out).mono ?_
  rintro e w2 ⟨rfl, hb2⟩
  have HB2 := Hid.mk' (HB1.out.trans (hb2.mono hs1))
  have hs2 := HB2.out.size
  clear hb2 H2 HB1
  go_wp2_with fail
  refine (H3.out w2).mono ?_
  rintro e w3 ⟨ad3, cap3, rfl, ho3, hb3⟩
  have HB3 := Hid.mk' (HB2.out.trans (hb3.mono hs2))
  have HO3 := Hid.mk' (OwnR.low ho3 hs2)
  have hs3 := HB3.out.size
  clear hb3 H3 HB2 ho3
  go_wp2_with fail
  refine (H4.out w3 HB3.out).mono ?_
  rintro e w4 ⟨ad4, cap4, rfl, ho4, hb4⟩
  have HB4 := Hid.mk' (HB3.out.trans (hb4.mono hs3))
  have HO34 := Hid.mk' (OwnV.below HO3.out hb4)
  have HO4 := Hid.mk' (OwnR.low ho4 hs3)
  have hs4 := HB4.out.size
  clear hb4 H4 HB3 ho4 HO3
  go_wp2_with fail
  refine (H5.out w4).mono ?_
  rintro e w5 ⟨ad5, cap5, rfl, ho5, hb5⟩
  have HB5 := Hid.mk' (HB4.out.trans (hb5.mono hs4))
  have HO35 := Hid.mk' (OwnV.below HO34.out hb5)
  have HO45 := Hid.mk' (OwnV.below HO4.out hb5)
  have HO5 := Hid.mk' (OwnR.low ho5 hs4)
  have hs5 := HB5.out.size
  clear hb5 H5 HB4 ho5 HO34 HO4
  go_wp2_with fail
  refine (H6.out w5 HB5.out).mono ?_
  rintro e w6 ⟨ad6, cap6, rfl, ho6, hb6⟩
  have HB6 := Hid.mk' (HB5.out.trans (hb6.mono hs5))
  have HO36 := Hid.mk' (OwnV.below HO35.out hb6)
  have HO46 := Hid.mk' (OwnV.below HO45.out hb6)
  have HO56 := Hid.mk' (OwnV.below HO5.out hb6)
  have HO6 := Hid.mk' (OwnR.low ho6 hs5)
  have HEa := Hid.mk' (HE1.out w6 ad3 cap3 ad4 cap4 HO36.out HO46.out)
  clear hb6 H6 HB5 ho6 HO35 HO45 HO5 HO36 HO46 HE1
  have hTT : (T.toList == T.toList) = true := beq_self_eq_true _
  go_wp2_with fail
  refine HEa.out.mono ?_
  rintro e w7 ⟨rfl, q, hw7⟩
  have HB7 : Hid (Below w.heap.size w w7) := by rw [hw7]; exact below_drewN HB6.out q
  have HEb := Hid.mk' (HE2.out w7 ad5 cap5 ad6 cap6 (by rw [hw7]; exact HO56.out) (by rw [hw7]; exact HO6.out))
  clear hw7 HB6 HO56 HO6 HE2 HEa
  go_wp2_with fail
  refine HEb.out.mono ?_
  rintro e w8 ⟨rfl, q, hw8⟩
  have HB8 : Hid (Below w.heap.size w w8) := by rw [hw8]; exact below_drewN HB7.out q
  clear hw8 HB7 HEb
  go_wp2
  go_ret
  exact ⟨rfl, HB8.out⟩
end Go.Proofs.YtbfiompbngpjoaaDoor.E
