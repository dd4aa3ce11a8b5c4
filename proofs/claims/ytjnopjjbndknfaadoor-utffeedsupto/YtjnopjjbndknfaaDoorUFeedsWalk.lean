/-
  farlaw.UtfFeeds returns true; conditions: the two tables of unicode/utf8 hold what their initialisers lay; at most 1048576 bytes together.
-/
import Derived.Test.YtjnopjjbndknfaaDoorUUnr2
namespace Go.Proofs.YtjnopjjbndknfaaDoor.U
open Go.RowKit Go.Lib Go.Proofs.YtjnopjjbndknfaaDoor

set_option maxHeartbeats 8000000 in
set_option maxRecDepth 100000 in
theorem Feeds_bad (p s : List UInt8) (w : World) (hT : Tabs w) (hp : ¬ (p = [] ∨ beg p = true)) (hl : p.length ≤ 1048576) :
    Calls Tryd.prog 4 #[.string ⟨p.toArray⟩, .string ⟨s.toArray⟩] w fun e w' => e = .returned (.bool true) ∧ Below w.heap.size w w' := by
  have HF := Hid.mk' (Feed_bad p s w hT hp)
  have HP : Hid (∀ wr : World, _) := fun wr => PartRight_any p wr (by omega)
  have HC : Hid (∀ wr, Below w.heap.size w wr → _) := fun wr hb => Check_any p wr (hT.below hb)
  rw [if_neg hp] at HP HC
  generalize (⟨p.toArray⟩ : ByteArray) = SP at *
  generalize (⟨s.toArray⟩ : ByteArray) = SS at *
  clear hT hp
  go_enter Tryd.func4, Tryd.ntmps4
  go_wp2_with fail
  refine HF.out.mono ?_
  rintro e w1 ⟨rfl, hb1⟩
  have HB1 := Hid.mk' hb1
  clear hb1 HF
  go_wp2_with fail
  refine (HP.out w1).mono ?_
  rintro e w2 ⟨rfl, hb2⟩
  have HB2 : Hid (Below w.heap.size w w2) := HB1.out.trans (hb2.mono HB1.out.size)
  clear hb2
  go_wp2_with fail
  refine (HC.out w2 HB2.out).mono ?_
  rintro e w3 ⟨rfl, hb3⟩
  have HB3 : Hid (Below w.heap.size w w3) := HB2.out.trans (hb3.mono HB2.out.size)
  clear hb3
  go_wp2
  go_ret
  exact ⟨rfl, HB3.out⟩

set_option maxHeartbeats 8000000 in
set_option maxRecDepth 100000 in
theorem Feeds_ok (p s : List UInt8) (w : World) (hT : Tabs w) (hp : p = [] ∨ beg p = true) (hl : p.length + s.length ≤ 1048576) :
    Calls Tryd.prog 4 #[.string ⟨p.toArray⟩, .string ⟨s.toArray⟩] w fun e w' => e = .returned (.bool true) ∧ Below w.heap.size w w' := by
  have HF := Hid.mk' (Feed_ok p s w hT hp (by omega))
  have HP : Hid (∀ wr : World, _) := fun wr => PartRight_any p wr (by omega)
  have HC : Hid (∀ wr, Below w.heap.size w wr → _) := fun wr hb => Check_any p wr (hT.below hb)
  rw [if_pos hp] at HP HC
  have HU : Hid (∀ wr : World, _) := fun wr => Unrune_any (p ++ s) wr (by simp; omega)
  have hap := bytes_append p s
  have hsp : (⟨p.toArray⟩ : ByteArray).size = p.length := by simp [ByteArray.size]
  have hss : (⟨s.toArray⟩ : ByteArray).size = s.length := by simp [ByteArray.size]
  have hrl : (ints (rd (p ++ s)).2).length ≤ 1048576 := by
    have := (rd_left _ (p ++ s) (Nat.le_refl _)).2
    rw [List.length_append] at this
    simp [ints]; omega
  generalize ints (rd (p ++ s)).2 = R at *
  generalize (⟨(rd (p ++ s)).1.toArray⟩ : ByteArray) = SX at *
  generalize (⟨(p ++ s).toArray⟩ : ByteArray) = PS at *
  generalize (⟨p.toArray⟩ : ByteArray) = SP at *
  generalize (⟨s.toArray⟩ : ByteArray) = SS at *
  clear hT hp
  go_enter Tryd.func4, Tryd.ntmps4
  go_wp2_with fail
  refine HF.out.mono ?_
  rintro e w1 ⟨v1, rfl, ho1, hb1⟩
  have HB1 := Hid.mk' hb1
  have HR1 := Hid.mk' (RdI.own ho1)
  clear hb1 HF ho1
  go_wp2_with fail
  refine (HP.out w1).mono ?_
  rintro e w2 ⟨rfl, hb2⟩
  have HB2 : Hid (Below w.heap.size w w2) := HB1.out.trans (hb2.mono HB1.out.size)
  have HR2 := Hid.mk' (HR1.out.below hb2)
  clear hb2 HR1
  go_wp2_with fail
  refine (HC.out w2 HB2.out).mono ?_
  rintro e w3 ⟨rfl, hb3⟩
  have HB3 : Hid (Below w.heap.size w w3) := HB2.out.trans (hb3.mono HB2.out.size)
  have HR3 := Hid.mk' (HR2.out.below hb3)
  clear hb3 HR2
  go_wp2_with fail
  refine (HU.out w3).mono ?_
  rintro e w4 ⟨v4, rfl, ho4, hb4⟩
  have HB4 : Hid (Below w.heap.size w w4) := HB3.out.trans (hb4.mono HB3.out.size)
  have HR4 := Hid.mk' (HR3.out.below hb4)
  have HM4 := Hid.mk' (RdI.own ho4)
  clear hb4 HR3 ho4
  have heq := Equal_any w4 v1 v4 R R HR4.out HM4.out (by omega) (by omega)
  rw [beq_self_eq_true] at heq
  have HEQ := Hid.mk' heq
  clear heq
  go_wp2_with fail
  refine HEQ.out.mono ?_
  rintro e w7 ⟨rfl, q, rfl⟩
  go_wp2
  go_ret
  exact ⟨rfl, below_drewN HB4.out q⟩
end Go.Proofs.YtjnopjjbndknfaaDoor.U
