/-
  Contract of farkeep.choiceLives: it returns true; no condition.
-/
import Derived.Test.YtckgkncahaicoaaDoorCAns
namespace Go.Proofs.YtckgkncahaicoaaDoor.C
open Go.RowKit Go.Lib Go.Proofs.YtckgkncahaicoaaDoor Go.Proofs.YtckgkncahaicoaaDoor.W Go.Proofs.YtckgkncahaicoaaDoor.Q

def n1 : ByteArray := bs [85, 84, 70, 45, 56]
def n2 : ByteArray := bs [65, 83, 67, 73, 73, 33]
def m1 : ByteArray := bs [97, 115, 99, 105, 105, 33]
def t1 : List UInt8 := [1, 34, 85, 84, 70, 45, 56, 34, 65, 83, 67, 73, 73, 33]
theorem ask_lives : askT [n1, n2] = (bs t1, 0) := by decide +kernel
theorem ans_lives : ansT [m1] t1 = (bs [2, 65, 83, 67, 73, 73, 33], m1, 0) := by decide +kernel

theorem RdS.new (w : World) (l : List ByteArray) : RdS (w.alloc (.cells (scells l).toArray 9)) (.slice (some ⟨w.heap.size, 0, none⟩) l.length l.length) l :=
  RdS.box (Box.new w 9 (scells l)) _ (Nat.le_refl _)

set_option maxHeartbeats 4000000 in
set_option maxRecDepth 100000 in
theorem lives_any (w : World) : Calls Tryd.prog 5 #[] w fun e w' => e = .returned (.bool true) ∧ Below w.heap.size w w' := by
  have H1 : Hid (Calls Tryd.prog 4 #[.slice (some ⟨w.heap.size, 0, none⟩) 2 2] (w.alloc (.cells #[.string ⟨#[85, 84, 70, 45, 56]⟩, .string ⟨#[65, 83, 67, 73, 73, 33]⟩] 9)) fun e w' => e = .returned (.tuple #[.string (bs t1), .int .i64 0]) ∧ Below w.heap.size w w') := by
    refine (Ask_any (w.alloc (.cells (scells [n1, n2]).toArray 9)) _ [n1, n2] (RdS.new w [n1, n2]) (by simp)).mono ?_
    rintro e w' ⟨rfl, hb⟩
    rw [ask_lives]
    exact ⟨rfl, ((Below.refl _ _).alloc (Nat.le_refl _) _).trans (hb.mono (by simp))⟩
  have H2 : Hid (∀ W : World, Calls Tryd.prog 12 #[.slice (some ⟨W.heap.size, 0, none⟩) 1 1, .string (bs t1)] (W.alloc (.cells #[.string ⟨#[97, 115, 99, 105, 105, 33]⟩] 9)) fun e w' => e = .returned (.tuple #[.string ⟨#[2, 65, 83, 67, 73, 73, 33]⟩, .string ⟨#[97, 115, 99, 105, 105, 33]⟩, .int .i64 0]) ∧ Below W.heap.size W w') := fun W => by
    refine (Answer_any (W.alloc (.cells (scells [m1]).toArray 9)) _ [m1] t1 (RdS.new W [m1]) (by simp) (fun k h => ?_) (by decide)).mono ?_
    · obtain rfl : k = 0 := by simpa using h
      show m1.size ≤ 9223372036854775807
      decide
    rintro e w' ⟨rfl, hb⟩
    rw [ans_lives]
    exact ⟨rfl, ((Below.refl _ _).alloc (Nat.le_refl _) _).trans (hb.mono (by simp))⟩
  have hq : (bs t1).toList = [1, 34, 85, 84, 70, 45, 56, 34, 65, 83, 67, 73, 73, 33] := by rw [ByteArray.toList_eq]; rfl
  generalize bs t1 = T at *
  go_enter Tryd.func5, Tryd.ntmps5
  go_wp2_with fail
  refine H1.out.mono ?_
  rintro e w1 ⟨rfl, hb1⟩
  have HB1 := Hid.mk' hb1
  have hs1 := hb1.size
  have H3 := Hid.mk' (H2.out w1)
  clear hb1 H1 H2
  go_wp2_with fail
  refine H3.out.mono ?_
  rintro e w2 ⟨rfl, hb2⟩
  have HB2 : Hid (Below w.heap.size w w2) := HB1.out.trans (hb2.mono hs1)
  clear hb2 H3
  go_wp2
  go_ret
  exact ⟨rfl, HB2.out⟩
end Go.Proofs.YtckgkncahaicoaaDoor.C
