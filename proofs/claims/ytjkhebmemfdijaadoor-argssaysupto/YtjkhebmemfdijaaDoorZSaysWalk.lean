/-
  The walk of farlaw.ArgsSays: it returns true; conditions: the table internal/strconv.uint64pow10 holds what its initialiser lays; internal/bytealg.MaxLen holds an int; at most 1048576 bytes and numbers.
-/
import Derived.Test.YtjkhebmemfdijaaDoorZOf
namespace Go.Proofs.YtjkhebmemfdijaaDoor.Z
open Go.RowKit Go.Lib Go.Proofs.YtjkhebmemfdijaaDoor Go.Proofs.YtjkhebmemfdijaaDoor.W Go.Proofs.YtjkhebmemfdijaaDoor.Q Go.Proofs.YtjkhebmemfdijaaDoor.C

set_option maxHeartbeats 8000000 in
set_option maxRecDepth 100000 in
theorem ArgsSays_any (s : List UInt8) (v : Value) (l : List Int) (i no m : Int) (w : World) (hv : RdI w v l) (hT : Tab w) (hm : w.cell? ⟨0, 0, none⟩ = some (.int .i64 m)) (hs : s.length ≤ 1048576) (hl : l.length ≤ 1048576) :
    Calls Tryd.prog 3 #[.string (bs s), v, .int .i64 i, .int .i64 no] w fun e w' => e = .returned (.bool true) ∧ Below w.heap.size w w' := by
  have HR := Hid.mk' (Read_any s w (by omega))
  have HO := Hid.mk' (fun W h => ArgsOf_any s m W h hs)
  have HM : Hid (∀ W, Below w.heap.size w W → W.cell? ⟨0, 0, none⟩ = some (.int .i64 m)) := fun W hW => by rw [hW.cell (p := ⟨0, 0, none⟩) (World.block_lt_of_cell? _ _ hm)]; exact hm
  have HWR := Hid.mk' (fun W h1 h2 => Write_any v l W h1 h2 (by omega))
  have HAT := Hid.mk' (fun W h1 => ArgsText_any v l W h1 (by omega))
  have HGT := Hid.mk' (fun W h1 => Get_any v l i no W h1)
  have HBT := Hid.mk' (fun W => Between_any i 0 ((l.length : Int) - 1) W)
  have HV := Hid.mk' hv
  have HT := Hid.mk' hT
  have HEQ := Hid.mk' (fun W v1 v2 h1 h2 => Equal_same W v1 v2 (readT s).1 h1 h2 (by
    have h : (readT s).1.length ≤ 32 := by
      unfold readT
      split
      · exact rd_len s
      · exact Nat.zero_le _
    omega))
  obtain ⟨a, c, e, hc, hr⟩ := hv
  have hcase : (btw i 0 ((l.length : Int) - 1) = false ∧ getT l i no = no) ∨ ∃ k : Nat, ∃ h : k < l.length, i = (k : Int) ∧ btw i 0 ((l.length : Int) - 1) = true ∧ ∃ b off, a = some ⟨b, off, none⟩ ∧ b < w.heap.size ∧ w.cell? ⟨b, off + k, none⟩ = some (.int .i64 l[k]) ∧ (l[k] = -1 ∧ getT l i no = no ∨ l[k] ≠ -1 ∧ getT l i no = l[k]) := by
    by_cases h : 0 ≤ i ∧ i < l.length
    · refine .inr ⟨i.toNat, by omega, by omega, decide_eq_true (by omega), ?_⟩
      rcases hr with h0 | ⟨b, off, h1, h2, h3⟩
      · rw [h0] at h; simp at h; omega
      · refine ⟨b, off, h1, h3, h2 _ _, ?_⟩
        have e : getT l i no = if l[i.toNat] = -1 then no else l[i.toNat] := dif_pos h
        rw [e]
        by_cases h4 : l[i.toNat] = -1
        · exact .inl ⟨h4, if_pos h4⟩
        · exact .inr ⟨h4, if_neg h4⟩
    · exact .inl ⟨decide_eq_false (by omega), dif_neg h⟩
  clear hr hT hm
  subst e
  have hlen : (l.length : Int) ≤ 1048576 := by omega
  generalize bs s = S at *
  generalize readT s = R at *
  obtain ⟨R1, R2⟩ := R
  generalize writeT l = T at *
  obtain ⟨T1, T2⟩ := T
  dsimp only at *
  generalize bs T1 = TS at *
  generalize getT l i no = G at *
  rcases hcase with ⟨hb, hg⟩ | ⟨k, hk, hi, hb, b, off, ha, hbw, hcell, hx⟩
  · subst hg
    rw [hb] at HBT
    clear hb
    go_enter Tryd.func3, Tryd.ntmps3
    go_wp2_with fail
    refine HR.out.mono ?_
    rintro e w1 ⟨v1, rfl, o1, b1⟩
    have R1a := Hid.mk' (RdI.own o1)
    have V1 := Hid.mk' (HV.out.below b1)
    have B1 := Hid.mk' b1
    clear o1 b1 HR HV
    go_wp2_with fail
    refine (HO.out _ (HM.out _ B1.out)).mono ?_
    rintro e w2 ⟨v2, rfl, o2, b2⟩
    have R1b := Hid.mk' (R1a.out.below b2)
    have R2b := Hid.mk' (RdI.own o2)
    have V2 := Hid.mk' (V1.out.below b2)
    have B2 := Hid.mk' (B1.out.trans (Below.mono b2 B1.out.size))
    clear o2 b2 HO HM B1 V1 R1a
    go_wp2_with fail
    refine (HWR.out _ V2.out (HT.out.below B2.out)).mono ?_
    rintro e w3 ⟨rfl, b3⟩
    have R1c := Hid.mk' (R1b.out.below b3)
    have R2c := Hid.mk' (R2b.out.below b3)
    have V3 := Hid.mk' (V2.out.below b3)
    have B3 := Hid.mk' (B2.out.trans (Below.mono b3 B2.out.size))
    clear b3 HWR HT B2 V2 R1b R2b
    go_wp2_with fail
    refine (HAT.out _ V3.out).mono ?_
    rintro e w4 ⟨rfl, rfl⟩
    clear HAT
    go_wp2_with fail
    refine (HBT.out _).mono ?_
    rintro e w4 ⟨rfl, rfl⟩
    go_wp2_with fail
    refine (HEQ.out _ _ _ R1c.out R2c.out).mono ?_
    rintro e w5 ⟨rfl, q, rfl⟩
    have B5 := Hid.mk' (below_drewN B3.out q)
    have HG5 := Hid.mk' (HGT.out _ (V3.out.below (below_drewN (Below.refl _ _) q)))
    clear HEQ HGT B3 V3 R1c R2c
    go_wp2_with fail
    refine HG5.out.mono ?_
    rintro e w6 ⟨rfl, rfl⟩
    go_wp2
    go_ret
    exact ⟨rfl, B5.out⟩
  · subst hi ha
    rw [hb] at HBT
    clear hb
    have HCL : Hid (∀ W, Below w.heap.size w W → W.cell? ⟨b, off + k, none⟩ = some (.int .i64 l[k])) := fun W hW => (hW.cell (p := ⟨b, off + k, none⟩) hbw).trans hcell
    clear hcell
    rcases hx with ⟨hx, hg⟩ | ⟨hx, hg⟩
    · subst hg
      rw [hx] at HCL
      clear hx
      go_enter Tryd.func3, Tryd.ntmps3
      go_wp2_with fail
      refine HR.out.mono ?_
      rintro e w1 ⟨v1, rfl, o1, b1⟩
      have R1a := Hid.mk' (RdI.own o1)
      have V1 := Hid.mk' (HV.out.below b1)
      have B1 := Hid.mk' b1
      clear o1 b1 HR HV
      go_wp2_with fail
      refine (HO.out _ (HM.out _ B1.out)).mono ?_
      rintro e w2 ⟨v2, rfl, o2, b2⟩
      have R1b := Hid.mk' (R1a.out.below b2)
      have R2b := Hid.mk' (RdI.own o2)
      have V2 := Hid.mk' (V1.out.below b2)
      have B2 := Hid.mk' (B1.out.trans (Below.mono b2 B1.out.size))
      clear o2 b2 HO HM B1 V1 R1a
      go_wp2_with fail
      refine (HWR.out _ V2.out (HT.out.below B2.out)).mono ?_
      rintro e w3 ⟨rfl, b3⟩
      have R1c := Hid.mk' (R1b.out.below b3)
      have R2c := Hid.mk' (R2b.out.below b3)
      have V3 := Hid.mk' (V2.out.below b3)
      have B3 := Hid.mk' (B2.out.trans (Below.mono b3 B2.out.size))
      clear b3 HWR HT B2 V2 R1b R2b
      go_wp2_with fail
      refine (HAT.out _ V3.out).mono ?_
      rintro e w4 ⟨rfl, rfl⟩
      clear HAT
      go_wp2_with fail
      refine (HBT.out _).mono ?_
      rintro e w4 ⟨rfl, rfl⟩
      have c1 := HCL.out _ B3.out
      go_wp2_with fail
      refine (HEQ.out _ _ _ R1c.out R2c.out).mono ?_
      rintro e w5 ⟨rfl, q, rfl⟩
      have B5 := Hid.mk' (below_drewN B3.out q)
      have HG5 := Hid.mk' (HGT.out _ (V3.out.below (below_drewN (Below.refl _ _) q)))
      clear HEQ HGT B3 V3 R1c R2c
      go_wp2_with fail
      refine HG5.out.mono ?_
      rintro e w6 ⟨rfl, rfl⟩
      go_wp2
      go_ret
      exact ⟨rfl, B5.out⟩
    · subst hg
      have hx1 : (l[k] != -1) = true := bne_iff_ne.2 hx
      generalize l[k] = x at *
      go_enter Tryd.func3, Tryd.ntmps3
      go_wp2_with fail
      refine HR.out.mono ?_
      rintro e w1 ⟨v1, rfl, o1, b1⟩
      have R1a := Hid.mk' (RdI.own o1)
      have V1 := Hid.mk' (HV.out.below b1)
      have B1 := Hid.mk' b1
      clear o1 b1 HR HV
      go_wp2_with fail
      refine (HO.out _ (HM.out _ B1.out)).mono ?_
      rintro e w2 ⟨v2, rfl, o2, b2⟩
      have R1b := Hid.mk' (R1a.out.below b2)
      have R2b := Hid.mk' (RdI.own o2)
      have V2 := Hid.mk' (V1.out.below b2)
      have B2 := Hid.mk' (B1.out.trans (Below.mono b2 B1.out.size))
      clear o2 b2 HO HM B1 V1 R1a
      go_wp2_with fail
      refine (HWR.out _ V2.out (HT.out.below B2.out)).mono ?_
      rintro e w3 ⟨rfl, b3⟩
      have R1c := Hid.mk' (R1b.out.below b3)
      have R2c := Hid.mk' (R2b.out.below b3)
      have V3 := Hid.mk' (V2.out.below b3)
      have B3 := Hid.mk' (B2.out.trans (Below.mono b3 B2.out.size))
      clear b3 HWR HT B2 V2 R1b R2b
      go_wp2_with fail
      refine (HAT.out _ V3.out).mono ?_
      rintro e w4 ⟨rfl, rfl⟩
      clear HAT
      go_wp2_with fail
      refine (HBT.out _).mono ?_
      rintro e w4 ⟨rfl, rfl⟩
      have c1 := HCL.out _ B3.out
      go_wp2_with fail
      refine (HEQ.out _ _ _ R1c.out R2c.out).mono ?_
      rintro e w5 ⟨rfl, q, rfl⟩
      have B5 := Hid.mk' (below_drewN B3.out q)
      have HG5 := Hid.mk' (HGT.out _ (V3.out.below (below_drewN (Below.refl _ _) q)))
      clear HEQ HGT B3 V3 R1c R2c
      go_wp2_with fail
      refine HG5.out.mono ?_
      rintro e w6 ⟨rfl, rfl⟩
      go_wp2
      go_ret
      exact ⟨rfl, B5.out⟩
end Go.Proofs.YtjkhebmemfdijaaDoor.Z
