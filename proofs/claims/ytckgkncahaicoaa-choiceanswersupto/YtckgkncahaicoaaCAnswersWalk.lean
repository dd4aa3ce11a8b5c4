/-
  The walk of farlaw.ChoiceAnswers: it returns true; conditions: at most 2^44 names, no text longer than an int tells, the data of at most 2^30 bytes.
-/
import Derived.Test.YtckgkncahaicoaaCChosen
namespace Go.Proofs.Ytckgkncahaicoaa.C
open Go.RowKit Go.Lib Go.Proofs.Ytckgkncahaicoaa Go.Proofs.Ytckgkncahaicoaa.W Go.Proofs.Ytckgkncahaicoaa.Q

set_option maxHeartbeats 4000000 in
set_option maxRecDepth 100000 in
theorem ChoiceAnswers_any (v : Value) (may : List ByteArray) (D : ByteArray) (w : World) (hv : RdS w v may) (hn : may.length ≤ 17592186044416) (hz : ∀ k (h : k < may.length), (may[k]).size ≤ 9223372036854775807) (hd : D.size ≤ 1073741824) :
    Calls Try.prog 4 #[v, .string D] w fun e w' => e = .returned (.bool true) ∧ Below w.heap.size w w' := by
  obtain ⟨d, rfl⟩ : ∃ d, D = bs d := ⟨D.data.toList, (bs_data D).symm⟩
  rw [bs_size] at hd
  have H1 := Hid.mk' (Answer_any w v may d hv hn hz (by omega))
  have H2 : Hid (∀ W, Below w.heap.size w W → Calls Try.prog 12 #[v, .string (bs d)] W fun e w' => e = .returned (.tuple #[.string (ansT may d).1, .string (ansT may d).2.1, .int .i64 (ansT may d).2.2]) ∧ Below W.heap.size W w') := fun W hW => Chosen_any v may d W (hv.below hW) hn hz hd
  obtain ⟨a, c, rfl, hc, hr⟩ := hv
  clear hr hz
  generalize ansT may d = R at *
  obtain ⟨r1, r2, r3⟩ := R
  dsimp only at H1 H2
  generalize bs d = D at *
  go_enter Try.func4, Try.ntmps4
  go_wp2_with fail
  refine H1.out.mono ?_
  rintro e w1 ⟨rfl, hb1⟩
  have HB1 := Hid.mk' hb1
  have hs1 := hb1.size
  clear hb1 H1
  go_wp2_with fail
  refine (H2.out w1 HB1.out).mono ?_
  rintro e w2 ⟨rfl, hb2⟩
  have HB2 : Hid (Below w.heap.size w w2) := HB1.out.trans (hb2.mono hs1)
  clear hb2 H2
  go_wp2
  go_ret
  exact ⟨rfl, HB2.out⟩
end Go.Proofs.Ytckgkncahaicoaa.C
