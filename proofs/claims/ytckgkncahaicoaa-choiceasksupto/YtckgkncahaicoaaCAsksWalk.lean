/-
  The walk of farlaw.ChoiceAsks: it returns true; conditions: at most 2^44 names, together at most 2^47 bytes, no text longer than an int tells.
-/
import Derived.Test.YtckgkncahaicoaaCAskFor
import Derived.Test.YtckgkncahaicoaaCToldOf
namespace Go.Proofs.Ytckgkncahaicoaa.C
open Go.RowKit Go.Lib Go.Proofs.Ytckgkncahaicoaa Go.Proofs.Ytckgkncahaicoaa.W Go.Proofs.Ytckgkncahaicoaa.Q

set_option maxHeartbeats 4000000 in
set_option maxRecDepth 100000 in
theorem ChoiceAsks_any (v : Value) (l : List ByteArray) (D : ByteArray) (w : World) (hv : RdS w v l) (hn : l.length ≤ 17592186044416) (hz : ∀ k (h : k < l.length), (l[k]).size ≤ 9223372036854775807) (hjl : (Lib.join (l.map fun x => x.data.toList) []).length ≤ 140737488355328) (hd : D.size ≤ 9223372036854775807) :
    Calls Try.prog 3 #[v, .string D] w fun e w' => e = .returned (.bool true) ∧ Below w.heap.size w w' := by
  obtain ⟨d, rfl⟩ : ∃ d, D = bs d := ⟨D.data.toList, (bs_data D).symm⟩
  rw [bs_size] at hd
  have H1 := Hid.mk' (Ask_any w v l hv hn)
  have H2 : Hid (∀ W, Below w.heap.size w W → Calls Try.prog 8 #[v] W fun e w' => e = .returned (.tuple #[.string (askT l).1, .int .i64 (askT l).2]) ∧ Below W.heap.size W w') := fun W hW => AskFor_any W v l (hv.below hW) hn hjl
  have H3 : Hid (∀ W, Below w.heap.size w W → Calls Try.prog 9 #[v, .string (bs d)] W fun e w' => e = .returned (.tuple #[.string (toldT l d).1, .int .i64 (toldT l d).2]) ∧ ∃ n, w' = W.drewN n) := fun W hW => Told_any W v l d (hv.below hW) hn hz hd
  have H4 : Hid (∀ W, Below w.heap.size w W → Calls Try.prog 10 #[v, .string (bs d)] W fun e w' => e = .returned (.tuple #[.string (toldT l d).1, .int .i64 (toldT l d).2]) ∧ Below W.heap.size W w') := fun W hW => ToldOf_any W v l d (hv.below hW) hn hz hd
  obtain ⟨a, c, rfl, hc, hr⟩ := hv
  clear hr hz hjl
  generalize askT l = R at *
  obtain ⟨r1, r2⟩ := R
  generalize toldT l d = G at *
  obtain ⟨g1, g2⟩ := G
  dsimp only at H1 H2 H3 H4
  generalize bs d = D at *
  go_enter Try.func3, Try.ntmps3
  go_wp2_with fail
  refine H1.out.mono ?_
  rintro e w1 ⟨rfl, hb1⟩
  have HB1 := Hid.mk' hb1
  have hs1 := hb1.size
  clear hb1 H1
  go_wp2_with fail
  refine (H2.out w1 HB1.out).mono ?_
  rintro e w2 ⟨rfl, hb2⟩
  have HB2 : Hid (Below w.heap.size w w2) := HB1.out.trans (hb2.mono hs1)
  clear hb2 H2
  go_wp2_with fail
  refine (H3.out w2 HB2.out).mono ?_
  rintro e w3 ⟨rfl, n, hw3⟩
  have HB3 : Hid (Below w.heap.size w w3) := by rw [hw3]; exact below_drewN HB2.out n
  have hs3 := HB3.out.size
  clear hw3 H3
  go_wp2_with fail
  refine (H4.out w3 HB3.out).mono ?_
  rintro e w4 ⟨rfl, hb4⟩
  have HB4 : Hid (Below w.heap.size w w4) := HB3.out.trans (hb4.mono hs3)
  clear hb4 H4
  go_wp2
  go_ret
  exact ⟨rfl, HB4.out⟩
end Go.Proofs.Ytckgkncahaicoaa.C
