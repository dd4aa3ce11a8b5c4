/-
  The walks of farkeep.NvtBack and farkeep.NvtCuts: each returns true; conditions: at most 1048576 bytes.
-/
import Derived.Test.YtodljopbgppopaaVLives
namespace Go.Proofs.Ytodljopbgppopaa.V
open Go.RowKit Go.Lib Go.Proofs.Ytodljopbgppopaa

set_option maxHeartbeats 4000000 in
set_option maxRecDepth 100000 in
theorem NvtBack_any (l : List UInt8) (binary : Bool) (w : World) (hl : l.length ≤ 1048576) :
    Calls Try.prog 3 #[.string ⟨l.toArray⟩, .bool binary] w fun e w' => e = .returned (.bool true) ∧ Below w.heap.size w w' := by
  have hol := outB_len binary l
  have HO := Hid.mk' (Out_any l binary w (by omega))
  have HI := Hid.mk' (fun W => In_any false (outB binary l) binary W (by omega))
  rw [rdB_outB] at HI
  have HL := Hid.mk' lives_any
  generalize (⟨(outB binary l).toArray⟩ : ByteArray) = T at *
  generalize (⟨l.toArray⟩ : ByteArray) = S at *
  clear hol
  go_enter Try.func3, Try.ntmps3
  go_wp2_with fail
  refine HO.out.mono ?_
  rintro e w1 ⟨rfl, hb1⟩
  have HB1 := Hid.mk' hb1
  have hs1 := hb1.size
  clear hb1
  go_wp2_with fail
  refine (HI.out w1).mono ?_
  rintro e w2 ⟨rfl, hb2⟩
  have HB2 : Hid (Below w.heap.size w w2) := HB1.out.trans (hb2.mono hs1)
  have hs2 := hb2.size
  clear hb2
  go_wp2_with fail
  refine (HL.out w2).mono ?_
  rintro e w3 ⟨rfl, hb3⟩
  have HB3 : Hid (Below w.heap.size w w3) := HB2.out.trans (hb3.mono (by omega))
  clear hb3
  go_wp2
  go_ret
  exact ⟨rfl, HB3.out⟩

set_option maxHeartbeats 4000000 in
set_option maxRecDepth 100000 in
theorem NvtCuts_any (cr : Bool) (a b : List UInt8) (binary : Bool) (w : World) (hl : a.length + b.length ≤ 1048576) :
    Calls Try.prog 4 #[.bool cr, .string ⟨a.toArray⟩, .string ⟨b.toArray⟩, .bool binary] w fun e w' => e = .returned (.bool true) ∧ Below w.heap.size w w' := by
  have HI1 := Hid.mk' (In_any cr a binary w (by omega))
  have HI2 := Hid.mk' (fun W => In_any (rdB binary cr a).1 b binary W (by omega))
  have HI3 := Hid.mk' (fun W => In_any cr (a ++ b) binary W (by simp; omega))
  rw [rdB_app] at HI3
  have hn1 := rdB_len binary cr a
  have hn2 := rdB_len binary (rdB binary cr a).1 b
  have HL := Hid.mk' lives_any
  have hz1 := size_mk a
  have hz2 := size_mk b
  have hz3 := size_mk (rdB binary cr a).2
  have hz4 := size_mk (rdB binary (rdB binary cr a).1 b).2
  simp only [] at HI3
  rw [← bytes_append a b, ← bytes_append (rdB binary cr a).2] at HI3
  generalize (⟨a.toArray⟩ : ByteArray) = A at *
  generalize (⟨b.toArray⟩ : ByteArray) = B at *
  generalize (⟨(rdB binary cr a).2.toArray⟩ : ByteArray) = S at *
  generalize (⟨(rdB binary (rdB binary cr a).1 b).2.toArray⟩ : ByteArray) = T at *
  generalize (rdB binary (rdB binary cr a).1 b).2 = t at *
  generalize (rdB binary (rdB binary cr a).1 b).1 = y at *
  generalize (rdB binary cr a).2 = s at *
  generalize (rdB binary cr a).1 = x at *
  go_enter Try.func4, Try.ntmps4
  go_wp2_with fail
  refine HI1.out.mono ?_
  rintro e w1 ⟨rfl, hb1⟩
  have HB1 := Hid.mk' hb1
  have hs1 := hb1.size
  clear hb1
  go_wp2_with fail
  refine (HI2.out w1).mono ?_
  rintro e w2 ⟨rfl, hb2⟩
  have HB2 : Hid (Below w.heap.size w w2) := HB1.out.trans (hb2.mono hs1)
  have hs2 := hb2.size
  clear hb2
  go_wp2_with fail
  refine (HI3.out w2).mono ?_
  rintro e w3 ⟨rfl, hb3⟩
  have HB3 : Hid (Below w.heap.size w w3) := HB2.out.trans (hb3.mono (by omega))
  have hs3 := hb3.size
  clear hb3
  go_wp2_with fail
  refine (HL.out w3).mono ?_
  rintro e w4 ⟨rfl, hb4⟩
  have HB4 : Hid (Below w.heap.size w w4) := HB3.out.trans (hb4.mono (by omega))
  clear hb4
  go_wp2
  go_ret
  exact ⟨rfl, HB4.out⟩
end Go.Proofs.Ytodljopbgppopaa.V
