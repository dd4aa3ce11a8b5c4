/-
  The walk of farkeep.NvtTurn: it returns true; conditions: at most 1048576 bytes, and the variable internal/bytealg.MaxLen holds some int.
-/
import Derived.Test.YtodljopbgppopaaDoorVRep
namespace Go.Proofs.YtodljopbgppopaaDoor.V
open Go.RowKit Go.Lib Go.Proofs.YtodljopbgppopaaDoor

set_option maxHeartbeats 4000000 in
set_option maxRecDepth 100000 in
theorem NvtTurn_any (a b : List UInt8) (m : Int) (w : World) (hl : a.length + b.length ≤ 1048576) (hm : w.cell? ⟨0, 0, none⟩ = some (.int .i64 m)) :
    Calls Tryd.prog 4 #[.string ⟨a.toArray⟩, .string ⟨b.toArray⟩] w fun e w' => e = .returned (.bool true) ∧ Below w.heap.size w w' := by
  have h0 : 0 < w.heap.size := World.block_lt_of_cell? _ _ hm
  have HI1 := Hid.mk' (In_any false a false w (by omega))
  rw [show rdB false false a = rd false a from rfl] at HI1
  have HI2 := Hid.mk' (fun W => In_any (rd false a).1 b true W (by omega))
  rw [show rdB true (rd false a).1 b = (false, flush (rd false a).1 ++ b) from rfl] at HI2
  have HF := Hid.mk' (Flush_any (rd false a).1)
  have HL := Hid.mk' lives_any
  have hn1 := rdB_len false false a
  rw [show rdB false false a = rd false a from rfl] at hn1
  have hn2 := flush_len (rd false a).1
  have HD1 : Hid (∀ W, Below w.heap.size w W → _) := Hid.mk' (fun W hW => drop_any ((rd false a).2 ++ (flush (rd false a).1 ++ b)) m W (by simp; omega) ((hW.cell (p := ⟨0, 0, none⟩) h0).trans hm))
  have HD2 : Hid (∀ W, Below w.heap.size w W → _) := Hid.mk' (fun W hW => drop_any (a ++ b) m W (by simp; omega) ((hW.cell (p := ⟨0, 0, none⟩) h0).trans hm))
  have e1 : dr ((rd false a).2 ++ (flush (rd false a).1 ++ b)) = dr (a ++ b) := by
    rw [dr_app, dr_app, dr_flush, dr_rd, List.nil_append, ← dr_app]
  rw [e1] at HD1
  have hz1 := size_mk a
  have hz2 := size_mk b
  have hz3 := size_mk (rd false a).2
  have hz4 := size_mk (flush (rd false a).1 ++ b)
  have hz5 := size_mk (flush (rd false a).1)
  rw [List.length_append] at hz4
  rw [← bytes_append (rd false a).2] at HD1
  rw [← bytes_append a b] at HD2
  have hap := bytes_append (flush (rd false a).1) b
  clear e1 hm
  simp only [] at HI1 HI2
  generalize (⟨(dr (a ++ b)).toArray⟩ : ByteArray) = D at *
  generalize (⟨(flush (rd false a).1 ++ b).toArray⟩ : ByteArray) = T at *
  generalize (⟨(flush (rd false a).1).toArray⟩ : ByteArray) = F at *
  generalize (⟨(rd false a).2.toArray⟩ : ByteArray) = S at *
  generalize (flush (rd false a).1).length = nf at *
  generalize (rd false a).2 = s at *
  generalize (rd false a).1 = x at *
  generalize (⟨a.toArray⟩ : ByteArray) = A at *
  generalize (⟨b.toArray⟩ : ByteArray) = B at *
  go_enter Tryd.func4, Tryd.ntmps4
  go_wp2_with fail
  refine HI1.out.mono ?_
  rintro e w1 ⟨rfl, hb1⟩
  have HB1 := Hid.mk' hb1
  have hs1 := hb1.size
  clear hb1
  go_wp2_with fail
  refine (HI2.out w1).mono ?_
  rintro e w2 ⟨rfl, hb2⟩
  have HB2 : Hid (Below w.heap.size w w2) := HB1.out.trans (hb2.mono hs1)
  have hs2 := hb2.size
  clear hb2
  go_wp2_with fail
  refine (HL.out w2).mono ?_
  rintro e w3 ⟨rfl, hb3⟩
  have HB3 : Hid (Below w.heap.size w w3) := HB2.out.trans (hb3.mono (by omega))
  have hs3 := hb3.size
  clear hb3
  go_wp2_with fail
  refine (HF.out w3).mono ?_
  rintro e w4 ⟨rfl, hb4⟩
  have HB4 : Hid (Below w.heap.size w w4) := HB3.out.trans (hb4.mono (by omega))
  have hs4 := hb4.size
  clear hb4
  go_wp2_with fail
  refine (HD1.out w4 HB4.out).mono ?_
  rintro e w5 ⟨rfl, hb5⟩
  have HB5 : Hid (Below w.heap.size w w5) := HB4.out.trans (hb5.mono (by omega))
  have hs5 := hb5.size
  clear hb5
  go_wp2_with fail
  refine (HD2.out w5 HB5.out).mono ?_
  rintro e w6 ⟨rfl, hb6⟩
  have HB6 : Hid (Below w.heap.size w w6) := HB5.out.trans (hb6.mono (by omega))
  clear hb6
  go_wp2
  go_ret
  exact ⟨rfl, HB6.out⟩
end Go.Proofs.YtodljopbgppopaaDoor.V
