/-
  The walks of farlaw.PageSays and farlaw.PageReads: each returns true; conditions: the table page.lineSigns holds what its initialiser lays; for PageReads at most 1073741824 bytes and as many runes.
-/
import Derived.Test.YtmniifmgliklnaaDoorGRef3
import Derived.Test.YtmniifmgliklnaaDoorGSameWalk
namespace Go.Proofs.YtmniifmgliklnaaDoor.G
open Go.RowKit Go.Lib Go.Proofs.YtmniifmgliklnaaDoor

set_option maxHeartbeats 4000000 in
set_option maxRecDepth 100000 in
theorem PageSays_any (p : Int) (b : UInt8) (r : Int) (w : World) (hT : Tab w) :
    Calls Tryd.prog 3 #[.int .i64 p, .int .u8 (b.toNat : Int), .int .i64 r] w fun e w' => e = .returned (.bool true) ∧ Below w.heap.size w w' := by
  have HU := Hid.mk' (Rune_any p b w hT)
  have HY := Hid.mk' (Byte_any p r w hT)
  have hbn := b.toNat_lt
  cases h : isP p with
  | false =>
    rw [h, if_neg (by decide), if_neg (by decide)] at HU
    rw [h, if_neg (by decide)] at HY
    have HR := Hid.mk' (Runes_bad p w h)
    clear hT h
    generalize (b.toNat : Int) = y at *
    go_enter Tryd.func3, Tryd.ntmps3
    go_wp2_with fail
    refine HU.out.mono ?_
    rintro e w1 ⟨rfl, rfl⟩
    go_wp2_with fail
    refine HY.out.mono ?_
    rintro e w1 ⟨rfl, rfl⟩
    go_wp2_with fail
    refine HR.out.mono ?_
    rintro e w1 ⟨rfl, rfl⟩
    go_wp2
    go_ret
    exact ⟨rfl, Below.refl _ _⟩
  | true =>
    rw [h, if_pos rfl, if_pos rfl] at HU
    rw [h, if_pos rfl] at HY
    have HR := Hid.mk' (Runes_any p w h)
    have HPB := Hid.mk' (fun W => PageByte_any p r W h)
    have HF : Hid (∀ W : World, OwnI W w.heap.size (.slice (some ⟨w.heap.size, 0, none⟩) 256 256) (full p) → W.cell? ⟨w.heap.size, b.toNat, none⟩ = some (.int .i64 (sg p b.toNat))) := fun W ho => by
      have := ho.cells (g := w.heap.size) rfl b.toNat (.int .i64 (sg p b.toNat)) (by simp [icells, full, hbn])
      have hadd : (⟨w.heap.size, 0, none⟩ : Addr).add b.toNat = ⟨w.heap.size, b.toNat, none⟩ := by unfold Addr.add; split <;> simp_all
      rw [hadd] at this
      exact this
    clear hT
    cases hby : byF p r with
    | none =>
      rw [hby] at HY HPB
      dsimp only [num] at HY HPB
      clear hby h
      generalize sg p b.toNat = x at *
      generalize b.toNat = y at *
      go_enter Tryd.func3, Tryd.ntmps3
      go_wp2_with fail
      refine HU.out.mono ?_
      rintro e w1 ⟨rfl, rfl⟩
      go_wp2_with fail
      refine HY.out.mono ?_
      rintro e w1 ⟨rfl, rfl⟩
      go_wp2_with fail
      refine HR.out.mono ?_
      rintro e w2 ⟨rfl, ho, hb2⟩
      have HB2 := Hid.mk' hb2
      have hs2 := hb2.size
      have HO := Hid.mk' ho
      clear hb2 ho
      go_wp2_with fail
      refine (HPB.out w2).mono ?_
      rintro e w3 ⟨rfl, hb3⟩
      have hcl := HF.out w3 (HO.out.below hb3)
      have HB3 : Hid (Below _ _ w3) := HB2.out.trans (hb3.mono hs2)
      clear hb3
      go_wp2
      go_ret
      exact ⟨rfl, HB3.out⟩
    | some c =>
      rw [hby] at HY HPB
      dsimp only [num] at HY HPB
      have hc := byF_lt hby
      clear hby h
      have hc1 : (c : Int) < 256 := by omega
      have hc0 : (0 : Int) ≤ (c : Int) := by omega
      generalize sg p b.toNat = x at *
      generalize b.toNat = y at *
      generalize (c : Int) = z at *
      go_enter Tryd.func3, Tryd.ntmps3
      go_wp2_with fail
      refine HU.out.mono ?_
      rintro e w1 ⟨rfl, rfl⟩
      go_wp2_with fail
      refine HY.out.mono ?_
      rintro e w1 ⟨rfl, rfl⟩
      go_wp2_with fail
      refine HR.out.mono ?_
      rintro e w2 ⟨rfl, ho, hb2⟩
      have HB2 := Hid.mk' hb2
      have hs2 := hb2.size
      have HO := Hid.mk' ho
      clear hb2 ho
      go_wp2_with fail
      refine (HPB.out w2).mono ?_
      rintro e w3 ⟨rfl, hb3⟩
      have hcl := HF.out w3 (HO.out.below hb3)
      have HB3 : Hid (Below _ _ w3) := HB2.out.trans (hb3.mono hs2)
      clear hb3
      go_wp2
      go_ret
      exact ⟨rfl, HB3.out⟩

set_option maxHeartbeats 4000000 in
set_option maxRecDepth 100000 in
theorem PageReads_any (p : Int) (l : List UInt8) (v : Value) (m : List Int) (w : World) (hT : Tab w) (hv : RdI w v m) (hl : l.length ≤ 1073741824) (hm : m.length ≤ 1073741824) :
    Calls Tryd.prog 4 #[.int .i64 p, .string ⟨l.toArray⟩, v] w fun e w' => e = .returned (.bool true) ∧ Below w.heap.size w w' := by
  have HRD := Hid.mk' (Read_any p l w hT (by omega))
  cases h : isP p with
  | false =>
    rw [h, if_neg (by decide), if_neg (by decide)] at HRD
    have HR := Hid.mk' (fun W => PageRead_bad p ⟨l.toArray⟩ W h)
    obtain ⟨a, cap, rfl, hc, _⟩ := hv
    have HW := Hid.mk' (fun W => Write_bad p a m.length cap W h)
    have HX := Hid.mk' (fun W => PageWrite_bad p a m.length cap W h)
    have HE := Hid.mk' (fun (W : World) v1 h1 => Equal_same W v1 (.slice none 0 0) [] h1 ⟨none, 0, rfl, by simp, .inl rfl⟩ (by simp))
    generalize (⟨l.toArray⟩ : ByteArray) = S at *
    clear hT h
    go_enter Tryd.func4, Tryd.ntmps4
    go_wp2_with fail
    refine HRD.out.mono ?_
    rintro e w1 ⟨v1, rfl, ho, hb1⟩
    have HB1 := Hid.mk' hb1
    have HE1 := Hid.mk' (HE.out w1 v1 (RdI.own ho))
    clear hb1 ho HE
    go_wp2_with fail
    refine (HR.out w1).mono ?_
    rintro e w2 ⟨rfl, rfl⟩
    go_wp2_with fail
    refine (HW.out _).mono ?_
    rintro e w2 ⟨rfl, rfl⟩
    go_wp2_with fail
    refine (HX.out _).mono ?_
    rintro e w2 ⟨rfl, rfl⟩
    go_wp2_with fail
    refine HE1.out.mono ?_
    rintro e w2 ⟨rfl, q, rfl⟩
    go_wp2
    go_ret
    exact ⟨rfl, below_drewN HB1.out q⟩
  | true =>
    rw [h, if_pos rfl, if_pos rfl] at HRD
    have HR := Hid.mk' (fun W => PageRead_any p l W h hl)
    have HW : Hid (∀ W, Below w.heap.size w W → Calls Tryd.prog 14 #[.int .i64 p, v] W fun e w' => e = .returned (.tuple #[.string ⟨(wrP p m).toArray⟩, .int .i64 (lost p m : Int), .int .i64 0]) ∧ Below W.heap.size W w') := fun W hW => Write_any p v m W h (hT.below hW) (hv.below hW) (by omega)
    have HX : Hid (∀ W, Below w.heap.size w W → Calls Tryd.prog 15 #[.int .i64 p, v] W fun e w' => e = .returned (.tuple #[.string ⟨(wrP p m).toArray⟩, .int .i64 (lost p m : Int), .int .i64 0]) ∧ Below W.heap.size W w') := fun W hW => PageWrite_any p v m W h (hv.below hW) hm
    have HE := Hid.mk' (fun (W : World) v1 v2 h1 h2 => Equal_same W v1 v2 (rdP p l) h1 h2 (by rw [rdP_length]; omega))
    obtain ⟨a, cap, rfl, hc, _⟩ := hv
    generalize (⟨l.toArray⟩ : ByteArray) = S at *
    generalize (⟨(wrP p m).toArray⟩ : ByteArray) = T at *
    generalize lost p m = n at *
    generalize rdP p l = L at *
    clear hT h
    go_enter Tryd.func4, Tryd.ntmps4
    go_wp2_with fail
    refine HRD.out.mono ?_
    rintro e w1 ⟨v1, rfl, ho1, hb1⟩
    have HB1 := Hid.mk' hb1
    have HO1 := Hid.mk' ho1
    have hs1 := hb1.size
    clear hb1 ho1
    go_wp2_with fail
    refine (HR.out w1).mono ?_
    rintro e w2 ⟨v2, rfl, ho2, hb2⟩
    have HB2 : Hid (Below w.heap.size w w2) := HB1.out.trans (hb2.mono hs1)
    have HV1 := Hid.mk' ((RdI.own HO1.out).below hb2)
    have HV2 := Hid.mk' (RdI.own ho2)
    have hs2 := hb2.size
    clear hb2 ho2 HO1 HB1
    go_wp2_with fail
    refine (HW.out w2 HB2.out).mono ?_
    rintro e w3 ⟨rfl, hb3⟩
    have HB3 : Hid (Below w.heap.size w w3) := HB2.out.trans (hb3.mono (by omega))
    have HV13 := Hid.mk' (HV1.out.below hb3)
    have HV23 := Hid.mk' (HV2.out.below hb3)
    have hs3 := hb3.size
    clear hb3 HV1 HV2 HB2
    go_wp2_with fail
    refine (HX.out w3 HB3.out).mono ?_
    rintro e w4 ⟨rfl, hb4⟩
    have HB4 : Hid (Below w.heap.size w w4) := HB3.out.trans (hb4.mono (by omega))
    have HE1 := Hid.mk' (HE.out w4 v1 v2 (HV13.out.below hb4) (HV23.out.below hb4))
    clear hb4 HV13 HV23 HB3 HE
    go_wp2_with fail
    refine HE1.out.mono ?_
    rintro e w5 ⟨rfl, q, rfl⟩
    go_wp2
    go_ret
    exact ⟨rfl, below_drewN HB4.out q⟩
end Go.Proofs.YtmniifmgliklnaaDoor.G
