/-
  farkeep.UtfCuts returns true; conditions: the two tables of unicode/utf8 hold what their initialisers lay; at most 1048576 bytes together.
-/
import Derived.Test.YtjnopjjbndknfaaDoorUApp
namespace Go.Proofs.YtjnopjjbndknfaaDoor.U
open Go.RowKit Go.Lib Go.Proofs.YtjnopjjbndknfaaDoor

set_option maxHeartbeats 8000000 in
set_option maxRecDepth 100000 in
theorem Cuts_bad (p a b : List UInt8) (w : World) (hT : Tabs w) (hp : ¬ (p = [] ∨ beg p = true)) :
    Calls Tryd.prog 6 #[.string ⟨p.toArray⟩, .string ⟨a.toArray⟩, .string ⟨b.toArray⟩] w fun e w' => e = .returned (.bool true) ∧ Below w.heap.size w w' := by
  have HF := Feed_bad p a w hT hp
  have HL : Hid (∀ wr, Below w.heap.size w wr → Calls Tryd.prog 25 #[] wr fun e w' => e = .returned (.bool true) ∧ Below wr.heap.size wr w') := fun wr hb => lives_any wr (hT.below hb)
  generalize (⟨p.toArray⟩ : ByteArray) = SP at *
  generalize (⟨a.toArray⟩ : ByteArray) = SA at *
  generalize (⟨b.toArray⟩ : ByteArray) = SB at *
  clear hT hp
  go_enter Tryd.func6, Tryd.ntmps6
  go_wp2_with fail
  refine HF.mono ?_
  rintro e w1 ⟨rfl, hb1⟩
  have HB1 := Hid.mk' hb1
  clear hb1
  go_wp2_with fail
  refine (HL.out w1 HB1.out).mono ?_
  rintro e w2 ⟨rfl, hb2⟩
  have HB2 : Hid (Below w.heap.size w w2) := HB1.out.trans (hb2.mono HB1.out.size)
  clear hb2
  go_wp2_with fail
  refine (HL.out w2 HB2.out).mono ?_
  rintro e w3 ⟨rfl, hb3⟩
  have HB3 : Hid (Below w.heap.size w w3) := HB2.out.trans (hb3.mono HB2.out.size)
  clear hb3
  go_wp2
  go_ret
  exact ⟨rfl, HB3.out⟩

theorem ints_append (l m : List Nat) : ints (l ++ m) = ints l ++ ints m := by simp [ints]
theorem ints_len (l : List Nat) : (ints l).length = l.length := by simp [ints]

set_option maxHeartbeats 8000000 in
set_option maxRecDepth 100000 in
theorem Cuts_ok (p a b : List UInt8) (w : World) (hT : Tabs w) (hp : p = [] ∨ beg p = true) (hl : p.length + a.length + b.length ≤ 1048576) :
    Calls Tryd.prog 6 #[.string ⟨p.toArray⟩, .string ⟨a.toArray⟩, .string ⟨b.toArray⟩] w fun e w' => e = .returned (.bool true) ∧ Below w.heap.size w w' := by
  have HF := Feed_ok p a w hT hp (by omega)
  obtain ⟨hx, hsum⟩ := rd_left _ (p ++ a) (Nat.le_refl _)
  have happ := rd_app _ (p ++ a) b (Nat.le_refl _)
  have hn1 := ints_len (rd (p ++ a)).2
  rw [List.length_append] at hsum
  have hbd : (rd (p ++ a)).1.length + b.length ≤ 1048576 := by omega
  have HF2 : Hid (∀ wr, Below w.heap.size w wr → _) := fun wr hb => Feed_ok (rd (p ++ a)).1 b wr (hT.below hb) hx (by omega)
  have HF3 : Hid (∀ wr, Below w.heap.size w wr → _) := fun wr hb => Feed_ok p (a ++ b) wr (hT.below hb) hp (by simp; omega)
  have hs2 := (rd_left _ ((rd (p ++ a)).1 ++ b) (Nat.le_refl _)).2
  have hn2 := ints_len (rd ((rd (p ++ a)).1 ++ b)).2
  rw [List.length_append] at hs2
  rw [← List.append_assoc, happ, ints_append, ← bytes_append a b] at HF3
  simp only at HF3
  have hsa : (⟨a.toArray⟩ : ByteArray).size = a.length := by simp [ByteArray.size]
  have hsb : (⟨b.toArray⟩ : ByteArray).size = b.length := by simp [ByteArray.size]
  clear happ
  have HL : Hid (∀ wr, Below w.heap.size w wr → Calls Tryd.prog 25 #[] wr fun e w' => e = .returned (.bool true) ∧ Below wr.heap.size wr w') := fun wr hb => lives_any wr (hT.below hb)
  generalize ints (rd ((rd (p ++ a)).1 ++ b)).2 = M at *
  generalize (rd ((rd (p ++ a)).1 ++ b)).2 = M0 at *
  generalize (rd ((rd (p ++ a)).1 ++ b)).1 = Y at *
  generalize ints (rd (p ++ a)).2 = L at *
  generalize (rd (p ++ a)).2 = L0 at *
  generalize (rd (p ++ a)).1 = X at *
  generalize (⟨Y.toArray⟩ : ByteArray) = SY at *
  generalize (⟨X.toArray⟩ : ByteArray) = SX at *
  generalize (⟨p.toArray⟩ : ByteArray) = SP at *
  generalize (⟨a.toArray⟩ : ByteArray) = SA at *
  generalize (⟨b.toArray⟩ : ByteArray) = SB at *
  clear hT hp hx
  go_enter Tryd.func6, Tryd.ntmps6
  go_wp2_with fail
  refine HF.mono ?_
  rintro e w1 ⟨v1, rfl, ho1, hb1⟩
  have HB1 := Hid.mk' hb1
  have HR1 := Hid.mk' (RdI.own ho1)
  clear hb1 HF ho1
  go_wp2_with fail
  refine (HL.out w1 HB1.out).mono ?_
  rintro e w2 ⟨rfl, hb2⟩
  have HB2 : Hid (Below w.heap.size w w2) := HB1.out.trans (hb2.mono HB1.out.size)
  have HR2 := Hid.mk' (HR1.out.below hb2)
  clear hb2 HR1
  go_wp2_with fail
  refine (HF2.out w2 HB2.out).mono ?_
  rintro e w3 ⟨v2, rfl, ho3, hb3⟩
  have HB3 : Hid (Below w.heap.size w w3) := HB2.out.trans (hb3.mono HB2.out.size)
  have HR3 := Hid.mk' (HR2.out.below hb3)
  have HM3 := Hid.mk' (RdI.own ho3)
  clear hb3 HR2 HF2 ho3
  go_wp2_with fail
  refine (HF3.out w3 HB3.out).mono ?_
  rintro e w4 ⟨v3, rfl, ho4, hb4⟩
  have HB4 : Hid (Below w.heap.size w w4) := HB3.out.trans (hb4.mono HB3.out.size)
  have HR4 := Hid.mk' (HR3.out.below hb4)
  have HM4 := Hid.mk' (HM3.out.below hb4)
  have HO4 := Hid.mk' ho4
  clear hb4 HR3 HM3 HF3 ho4
  have HCL := Hid.mk' (Clone_any w4 v1 L HR4.out (by omega))
  go_wp2_with fail
  refine HCL.out.mono ?_
  rintro e w5 ⟨v5, rfl, ho5, hb5⟩
  have hs5 := hb5.size
  have HB5 : Hid (Below w.heap.size w w5) := HB4.out.trans (hb5.mono HB4.out.size)
  have HM5 := Hid.mk' (HM4.out.below hb5)
  have HO5 := Hid.mk' (keptBy HO4.out hb5)
  clear hb5 HCL HM4
  go_wp2_with (at_builtin; refine wpList_append_ints _ (by rfl) (.tmp 63) (.tmp 64) rfl w4.heap.size v5 L M rfl ho5 v2 rfl HM5.out ?c1 ?c2 ?_)
  case c1 => omega
  case c2 => omega
  intro v6 w6 ho6 hgr
  have hB4 := HB4.out.size
  have HB6 : Hid (Below w.heap.size w w6) := HB5.out.grown hgr (by omega) (fun k hk => by have := (ho5.lt k hk).1; omega)
  have HC6 := Hid.mk' (HO5.out.keptAt fun k hk => hgr.block k (HO5.out.lt k hk).2 (fun e => by
    have q1 := (ho5.lt k e.symm).1
    have q2 := (HO4.out.lt k hk).2
    omega))
  have ho6' : OwnR w6 w4.heap.size 3 1 v6 (L ++ M).length (icells (L ++ M)) := by rw [List.length_append, hn1, hn2]; exact ho6
  have heq := Equal_any w6 v6 v3 (L ++ M) (L ++ M) (RdI.own ho6') (RdI.own HC6.out) (by rw [List.length_append]; omega) (by rw [List.length_append]; omega)
  rw [beq_self_eq_true] at heq
  have HEQ := Hid.mk' heq
  clear ho6 ho6' hgr heq ho5
  go_wp2_with fail
  refine HEQ.out.mono ?_
  rintro e w7 ⟨rfl, q, rfl⟩
  go_wp2
  go_ret
  exact ⟨rfl, below_drewN HB6.out q⟩
end Go.Proofs.YtjnopjjbndknfaaDoor.U
