/-
  The walk of farlaw.NvtSays: it returns true; conditions: at most 1048576 bytes, and the variable internal/bytealg.MaxLen holds some int.
-/
import Derived.Test.YtodljopbgppopaaDoorVLineIn
namespace Go.Proofs.YtodljopbgppopaaDoor.V
open Go.RowKit Go.Lib Go.Proofs.YtodljopbgppopaaDoor

set_option maxHeartbeats 4000000 in
set_option maxRecDepth 100000 in
theorem NvtSays_any (cr : Bool) (l : List UInt8) (binary : Bool) (m : Int) (w : World) (hl : l.length ≤ 1048576) (hm : w.cell? ⟨0, 0, none⟩ = some (.int .i64 m)) :
    Calls Tryd.prog 3 #[.bool cr, .string ⟨l.toArray⟩, .bool binary] w fun e w' => e = .returned (.bool true) ∧ Below w.heap.size w w' := by
  have h0 : 0 < w.heap.size := World.block_lt_of_cell? _ _ hm
  have HI := Hid.mk' (In_any cr l binary w (by omega))
  have HU := Hid.mk' (fun W => Out_any l binary W (by omega))
  have HJ : Hid (∀ W, Below w.heap.size w W → _) := Hid.mk' (fun W hW => LineIn_any cr l binary m W hl ((hW.cell (p := ⟨0, 0, none⟩) h0).trans hm))
  have HV : Hid (∀ W, Below w.heap.size w W → _) := Hid.mk' (fun W hW => LineOut_any l binary m W hl ((hW.cell (p := ⟨0, 0, none⟩) h0).trans hm))
  have HF1 : Hid (∀ W, Calls Tryd.prog 9 #[.bool true] W fun e w' => e = .returned (.string ⟨#[13]⟩) ∧ Below W.heap.size W w') := Hid.mk' (Flush_any true)
  have HF0 : Hid (∀ W, Calls Tryd.prog 9 #[.bool false] W fun e w' => e = .returned (.string ⟨#[]⟩) ∧ Below W.heap.size W w') := Hid.mk' (Flush_any false)
  clear hm
  generalize (⟨(rdB binary cr l).2.toArray⟩ : ByteArray) = T at *
  generalize (rdB binary cr l).1 = x at *
  generalize (⟨(outB binary l).toArray⟩ : ByteArray) = O at *
  generalize (⟨l.toArray⟩ : ByteArray) = S at *
  go_enter Tryd.func3, Tryd.ntmps3
  go_wp2_with fail
  refine HI.out.mono ?_
  rintro e w1 ⟨rfl, hb1⟩
  have HB1 := Hid.mk' hb1
  have hs1 := hb1.size
  clear hb1
  go_wp2_with fail
  refine (HJ.out w1 HB1.out).mono ?_
  rintro e w2 ⟨rfl, hb2⟩
  have HB2 : Hid (Below w.heap.size w w2) := HB1.out.trans (hb2.mono hs1)
  have hs2 := hb2.size
  clear hb2
  go_wp2_with fail
  refine (HU.out w2).mono ?_
  rintro e w3 ⟨rfl, hb3⟩
  have HB3 : Hid (Below w.heap.size w w3) := HB2.out.trans (hb3.mono (by omega))
  have hs3 := hb3.size
  clear hb3
  go_wp2_with fail
  refine (HV.out w3 HB3.out).mono ?_
  rintro e w4 ⟨rfl, hb4⟩
  have HB4 : Hid (Below w.heap.size w w4) := HB3.out.trans (hb4.mono (by omega))
  have hs4 := hb4.size
  clear hb4
  go_wp2_with fail
  refine (HF1.out w4).mono ?_
  rintro e w5 ⟨rfl, hb5⟩
  have HB5 : Hid (Below w.heap.size w w5) := HB4.out.trans (hb5.mono (by omega))
  have hs5 := hb5.size
  clear hb5
  go_wp2_with fail
  refine (HF0.out w5).mono ?_
  rintro e w6 ⟨rfl, hb6⟩
  have HB6 : Hid (Below w.heap.size w w6) := HB5.out.trans (hb6.mono (by omega))
  clear hb6
  go_wp2
  go_ret
  exact ⟨rfl, HB6.out⟩
end Go.Proofs.YtodljopbgppopaaDoor.V
