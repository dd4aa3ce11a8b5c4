/-
  farlaw.UtfWrites returns true; conditions: the two tables of unicode/utf8 hold what their initialisers lay; at most 1048576 bytes and numbers.
-/
import Derived.Test.YtjnopjjbndknfaaDoorUBeg
import Derived.Test.YtjnopjjbndknfaaDoorURuns
namespace Go.Proofs.YtjnopjjbndknfaaDoor.U
open Go.RowKit Go.Lib Go.Proofs.YtjnopjjbndknfaaDoor

set_option maxHeartbeats 8000000 in
set_option maxRecDepth 100000 in
theorem Writes_any (p : List UInt8) (v : Value) (l : List Int) (w : World) (hT : Tabs w) (hv : RdI w v l) (hp : p.length ≤ 1048576) (hl : l.length ≤ 1048576) :
    Calls Tryd.prog 5 #[.string ⟨p.toArray⟩, v] w fun e w' => e = .returned (.bool true) ∧ Below w.heap.size w w' := by
  have HF := Hid.mk' (Flush_any p w hT)
  have HP : Hid (∀ wr : World, _) := fun wr => PartRight_any p wr (by omega)
  have HE : Hid (∀ wr, Below w.heap.size w wr → _) := fun wr hb => Encode_any v l wr (hv.below hb) (by omega)
  have HR : Hid (∀ wr, Below w.heap.size w wr → _) := fun wr hb => RunesBytes_any v l wr (hv.below hb) (by omega)
  clear hT hv
  generalize (⟨(encAll l).toArray⟩ : ByteArray) = SE at *
  by_cases h0 : p = []
  · subst h0
    rw [if_pos (.inl rfl)] at HP HF
    rw [if_neg (by decide)] at HF
    go_enter Tryd.func5, Tryd.ntmps5
    go_wp2_with fail
    refine HF.out.mono ?_
    rintro e w1 ⟨v1, rfl, ho1, hb1⟩
    have HB1 := Hid.mk' hb1
    have HO1 := Hid.mk' (RdI.own ho1)
    clear hb1 ho1 HF
    go_wp2_with fail
    refine (HP.out w1).mono ?_
    rintro e w2 ⟨rfl, hb2⟩
    have HB2 : Hid (Below w.heap.size w w2) := HB1.out.trans (hb2.mono HB1.out.size)
    have HO2 := Hid.mk' (HO1.out.below hb2)
    clear hb2 HO1
    go_wp2_with fail
    refine (HP.out w2).mono ?_
    rintro e w3 ⟨rfl, hb3⟩
    have HB3 : Hid (Below w.heap.size w w3) := HB2.out.trans (hb3.mono HB2.out.size)
    have HO3 := Hid.mk' (HO2.out.below hb3)
    clear hb3 HO2
    have HEQ := Hid.mk' (Equal_any w3 v1 (.slice none 0 0) [] [] HO3.out ⟨none, 0, rfl, by simp, .inl rfl⟩ (by simp) (by simp))
    go_wp2_with fail
    refine HEQ.out.mono ?_
    rintro e w4 ⟨rfl, q, rfl⟩
    have HB4 : Hid (Below w.heap.size w (w3.drewN q)) := below_drewN HB3.out q
    clear HEQ
    go_wp2_with fail
    refine (HE.out _ HB4.out).mono ?_
    rintro e w5 ⟨rfl, hb5⟩
    have HB5 : Hid (Below w.heap.size w w5) := HB4.out.trans (hb5.mono HB4.out.size)
    clear hb5
    go_wp2_with fail
    refine (HR.out _ HB5.out).mono ?_
    rintro e w6 ⟨rfl, hb6⟩
    have HB6 : Hid (Below w.heap.size w w6) := HB5.out.trans (hb6.mono HB5.out.size)
    clear hb6
    go_wp2
    go_ret
    exact ⟨rfl, HB6.out⟩
  have he := str_empty h0
  cases hb : beg p with
  | true =>
    rw [if_pos (.inr hb)] at HP HF
    rw [if_pos hb] at HF
    clear hb
    generalize (⟨p.toArray⟩ : ByteArray) = SP at *
    go_enter Tryd.func5, Tryd.ntmps5
    go_wp2_with fail
    refine HF.out.mono ?_
    rintro e w1 ⟨v1, rfl, ho1, hb1⟩
    have HB1 := Hid.mk' hb1
    have HO1 := Hid.mk' (RdI.own ho1)
    clear hb1 ho1 HF
    go_wp2_with fail
    refine (HP.out w1).mono ?_
    rintro e w2 ⟨rfl, hb2⟩
    have HB2 : Hid (Below w.heap.size w w2) := HB1.out.trans (hb2.mono HB1.out.size)
    have hs2 := HB2.out.size
    have HO2 := Hid.mk' (HO1.out.below hb2)
    clear hb2 HO1
    have HB2' : Hid (Below w.heap.size w (w2.alloc (.cells #[.int .i64 65533] 3))) := HB2.out.alloc hs2 _
    have HO2' := Hid.mk' (HO2.out.alloc (.cells #[.int .i64 65533] 3))
    have HL2 : Hid (RdI (w2.alloc (.cells #[.int .i64 65533] 3)) (.slice (some ⟨w2.heap.size, 0, none⟩) 1 1) [65533]) := RdI.lit w2 [65533] 3
    go_wp2_with fail
    refine (HP.out _).mono ?_
    rintro e w3 ⟨rfl, hb3⟩
    have HB3 : Hid (Below w.heap.size w w3) := HB2'.out.trans (hb3.mono HB2'.out.size)
    have HO3 := Hid.mk' (HO2'.out.below hb3)
    have HL3 := Hid.mk' (HL2.out.below hb3)
    clear hb3 HO2 HO2' HL2
    have HEQ := Hid.mk' (Equal_any w3 v1 _ [65533] [65533] HO3.out HL3.out (by simp) (by simp))
    rw [beq_self_eq_true] at HEQ
    go_wp2_with fail
    refine HEQ.out.mono ?_
    rintro e w4 ⟨rfl, q, rfl⟩
    have HB4 : Hid (Below w.heap.size w (w3.drewN q)) := below_drewN HB3.out q
    clear HEQ
    go_wp2_with fail
    refine (HE.out _ HB4.out).mono ?_
    rintro e w5 ⟨rfl, hb5⟩
    have HB5 : Hid (Below w.heap.size w w5) := HB4.out.trans (hb5.mono HB4.out.size)
    clear hb5
    go_wp2_with fail
    refine (HR.out _ HB5.out).mono ?_
    rintro e w6 ⟨rfl, hb6⟩
    have HB6 : Hid (Below w.heap.size w w6) := HB5.out.trans (hb6.mono HB5.out.size)
    clear hb6
    go_wp2
    go_ret
    exact ⟨rfl, HB6.out⟩
  | false =>
    rw [if_neg (by simp [h0, hb])] at HP HF
    rw [if_neg (by rw [hb]; decide)] at HF
    clear hb
    generalize (⟨p.toArray⟩ : ByteArray) = SP at *
    go_enter Tryd.func5, Tryd.ntmps5
    go_wp2_with fail
    refine HF.out.mono ?_
    rintro e w1 ⟨v1, rfl, ho1, hb1⟩
    have HB1 := Hid.mk' hb1
    have HO1 := Hid.mk' (RdI.own ho1)
    clear hb1 ho1 HF
    go_wp2_with fail
    refine (HP.out w1).mono ?_
    rintro e w2 ⟨rfl, hb2⟩
    have HB2 : Hid (Below w.heap.size w w2) := HB1.out.trans (hb2.mono HB1.out.size)
    have HO2 := Hid.mk' (HO1.out.below hb2)
    clear hb2 HO1
    go_wp2_with fail
    refine (HP.out w2).mono ?_
    rintro e w3 ⟨rfl, hb3⟩
    have HB3 : Hid (Below w.heap.size w w3) := HB2.out.trans (hb3.mono HB2.out.size)
    have HO3 := Hid.mk' (HO2.out.below hb3)
    clear hb3 HO2
    have HEQ := Hid.mk' (Equal_any w3 v1 (.slice none 0 0) [] [] HO3.out ⟨none, 0, rfl, by simp, .inl rfl⟩ (by simp) (by simp))
    go_wp2_with fail
    refine HEQ.out.mono ?_
    rintro e w4 ⟨rfl, q, rfl⟩
    have HB4 : Hid (Below w.heap.size w (w3.drewN q)) := below_drewN HB3.out q
    clear HEQ
    go_wp2_with fail
    refine (HE.out _ HB4.out).mono ?_
    rintro e w5 ⟨rfl, hb5⟩
    have HB5 : Hid (Below w.heap.size w w5) := HB4.out.trans (hb5.mono HB4.out.size)
    clear hb5
    go_wp2_with fail
    refine (HR.out _ HB5.out).mono ?_
    rintro e w6 ⟨rfl, hb6⟩
    have HB6 : Hid (Below w.heap.size w w6) := HB5.out.trans (hb6.mono HB5.out.size)
    clear hb6
    go_wp2
    go_ret
    exact ⟨rfl, HB6.out⟩
end Go.Proofs.YtjnopjjbndknfaaDoor.U
