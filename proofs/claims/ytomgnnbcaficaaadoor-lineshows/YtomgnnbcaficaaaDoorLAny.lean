/-
  Contracts of strings.IndexRune at a rune above 127 in three signs, of strings.IndexAny and strings.ContainsAny at those signs; condition: a text of less than 4294967281 bytes.
-/
import Derived.Test.YtomgnnbcaficaaaDoorLAnyS
import Derived.Test.YtomgnnbcaficaaaDoorLCutsWalk
import Derived.Laws.RangeAny
import Derived.Lib.IndexBytes
import Derived.BigQuiet
import Derived.WalkMore
import Derived.BigRegion
import Derived.Deep.RegionWith
import Derived.Deep.LoopGhost
namespace Go.Proofs.YtomgnnbcaficaaaDoor.L
open Go.RowKit Go.Lib Go.Proofs.YtomgnnbcaficaaaDoor Go.Proofs.YtomgnnbcaficaaaDoor.W Go.Proofs.YtomgnnbcaficaaaDoor.Q

theorem below_iter (w : World) (s : ByteArray) (p : Nat) : Below w.heap.size w (w.iter s p) := (Below.refl _ _).alloc (Nat.le_refl _) _

set_option maxHeartbeats 4000000 in
set_option maxRecDepth 1000000 in
theorem IndexRune_error (w : World) :
    Calls Tryd.prog 50 #[.string ⟨#[13, 10, 8]⟩, .int .i32 65533] w fun e w' => e = .returned (.int .i64 (-1)) ∧ Below w.heap.size w w' := by
  have hz : (⟨#[13, 10, 8]⟩ : ByteArray).size = 3 := rfl
  have hn0 := fun ty => run_next_ascii (P := Tryd.prog) w ⟨#[13, 10, 8]⟩ 0 ty (by decide) (by decide)
  have hn1 := fun ty => run_next_ascii (P := Tryd.prog) w ⟨#[13, 10, 8]⟩ 1 ty (by decide) (by decide)
  have hn2 := fun ty => run_next_ascii (P := Tryd.prog) w ⟨#[13, 10, 8]⟩ 2 ty (by decide) (by decide)
  have hn3 := fun ty => run_next_end (P := Tryd.prog) w ⟨#[13, 10, 8]⟩ 3 ty (by decide)
  rw [show (((⟨#[13, 10, 8]⟩ : ByteArray)[0]'(by decide)).toNat : Int) = 13 from rfl] at hn0
  rw [show (((⟨#[13, 10, 8]⟩ : ByteArray)[1]'(by decide)).toNat : Int) = 10 from rfl] at hn1
  rw [show (((⟨#[13, 10, 8]⟩ : ByteArray)[2]'(by decide)).toNat : Int) = 8 from rfl] at hn2
  have HF := Hid.mk' (fun i => below_iter w ⟨#[13, 10, 8]⟩ i)
  generalize (⟨#[13, 10, 8]⟩ : ByteArray) = S at *
  go_enter Tryd.func50, Tryd.ntmps50
  go_wp2_with fail
  go_loopg [5, 6] 3 (fun g _ _ wx => ∃ i : Nat, i + g = 3 ∧ wx = w.iter S i)
  case atStart => exact ⟨0, rfl, rfl⟩
  case round =>
    obtain ⟨i, hig, rfl⟩ := hrel
    rcases (by omega : i = 0 ∨ i = 1 ∨ i = 2 ∨ i = 3) with rfl | rfl | rfl | rfl
    · go_wp2
      go_roundg 2
      case measure => omega
      case rel => exact ⟨1, rfl, rfl⟩
    · go_wp2
      go_roundg 1
      case measure => omega
      case rel => exact ⟨2, rfl, rfl⟩
    · go_wp2
      go_roundg 0
      case measure => omega
      case rel => exact ⟨3, rfl, rfl⟩
    · go_wp2
      go_ret
      exact ⟨rfl, HF.out 3⟩

/-- is a number a rune? -/
def okR (r : Nat) : Bool := decide (r < 55296 ∨ 57343 < r ∧ r ≤ 1114111)
set_option maxHeartbeats 1000000 in
theorem ValidRune_any (r : Nat) (w : World) (h : r ≤ 2147483647) :
    Calls Tryd.prog 63 #[.int .i32 (r : Int)] w fun e w' => e = .returned (.bool (okR r)) ∧ w' = w := by
  have h0 : (0 : Int) ≤ (r : Int) := by omega
  by_cases h1 : r < 55296
  · have e : okR r = true := decide_eq_true (.inl h1)
    have h2 : (r : Int) < 55296 := by omega
    rw [e]
    go_enter Tryd.func63, Tryd.ntmps63
    go_wp2
    go_ret
    exact ⟨rfl, rfl⟩
  have h2 : ¬ (r : Int) < 55296 := by omega
  by_cases h3 : 57343 < r
  · have h4 : (57343 : Int) < (r : Int) := by omega
    by_cases h5 : r ≤ 1114111
    · have e : okR r = true := decide_eq_true (.inr ⟨h3, h5⟩)
      have h6 : (r : Int) ≤ 1114111 := by omega
      rw [e]
      go_enter Tryd.func63, Tryd.ntmps63
      go_wp2
      go_ret
      exact ⟨rfl, rfl⟩
    · have e : okR r = false := decide_eq_false (by omega)
      have h6 : ¬ (r : Int) ≤ 1114111 := by omega
      rw [e]
      go_enter Tryd.func63, Tryd.ntmps63
      go_wp2
      go_ret
      exact ⟨rfl, rfl⟩
  · have e : okR r = false := decide_eq_false (by omega)
    have h4 : ¬ (57343 : Int) < (r : Int) := by omega
    rw [e]
    go_enter Tryd.func63, Tryd.ntmps63
    go_wp2
    go_ret
    exact ⟨rfl, rfl⟩

set_option maxHeartbeats 4000000 in
set_option maxRecDepth 1000000 in
theorem IndexRune_bad (r : Nat) (w : World) (h1 : 128 ≤ r) (h2 : r ≤ 2147483647) (hr : r ≠ 65533) (hb : okR r = false) :
    Calls Tryd.prog 50 #[.string ⟨#[13, 10, 8]⟩, .int .i32 (r : Int)] w fun e w' => e = .returned (.int .i64 (-1)) ∧ Below w.heap.size w w' := by
  have HV := Hid.mk' (ValidRune_any r w h2)
  rw [hb] at HV
  have e1 : (0 : Int) ≤ (r : Int) := by omega
  have e2 : ¬ (r : Int) < 128 := by omega
  have e3 : ((r : Int) == 65533) = false := beq_false_of_ne (by omega)
  go_enter Tryd.func50, Tryd.ntmps50
  go_wp2_with fail
  refine HV.out.mono ?_
  rintro e w1 ⟨rfl, rfl⟩
  go_wp2
  go_ret
  exact ⟨rfl, Below.refl _ _⟩

theorem enc_four (r : Nat) (h1 : 65536 ≤ r) (h2 : r ≤ 1114111) : (Utf8.encode (r : Int)).size = 4 := by
  have hv : Utf8.valid (r : Int) = true := by unfold Utf8.valid; simp; omega
  unfold Utf8.encode
  simp only [hv, if_true, Int.toNat_natCast]
  rw [if_neg (by omega), if_neg (by omega), if_neg (by omega)]
  rfl
theorem high (n : Nat) (h : n < 64) : 128 ≤ (UInt8.ofNat (0x80 + n)).toNat := by
  rw [UInt8.toNat_ofNat']
  omega
theorem enc_three (r : Nat) (h1 : 2048 ≤ r) (h2 : r < 55296 ∨ 57343 < r ∧ r ≤ 65535) : ∃ a b c : UInt8, Utf8.encode (r : Int) = ⟨#[a, b, c]⟩ ∧ 128 ≤ c.toNat := by
  have hv : Utf8.valid (r : Int) = true := by unfold Utf8.valid; simp; omega
  unfold Utf8.encode
  simp only [hv, if_true, Int.toNat_natCast]
  rw [if_neg (by omega), if_neg (by omega), if_pos (by omega)]
  exact ⟨_, _, _, rfl, high _ (Nat.mod_lt _ (by decide))⟩
theorem enc_two (r : Nat) (h1 : 128 ≤ r) (h2 : r < 2048) : ∃ a b : UInt8, Utf8.encode (r : Int) = ⟨#[a, b]⟩ ∧ 128 ≤ b.toNat := by
  have hv : Utf8.valid (r : Int) = true := by unfold Utf8.valid; simp; omega
  unfold Utf8.encode
  simp only [hv, if_true, Int.toNat_natCast]
  rw [if_neg (by omega), if_pos (by omega)]
  exact ⟨_, _, rfl, high _ (Nat.mod_lt _ (by decide))⟩

set_option maxHeartbeats 4000000 in
set_option maxRecDepth 1000000 in
theorem IndexRune_four (r : Nat) (w : World) (h1 : 65536 ≤ r) (h2 : r ≤ 1114111) :
    Calls Tryd.prog 50 #[.string ⟨#[13, 10, 8]⟩, .int .i32 (r : Int)] w fun e w' => e = .returned (.int .i64 (-1)) ∧ Below w.heap.size w w' := by
  have HV := Hid.mk' (ValidRune_any r w (by omega))
  rw [show okR r = true from decide_eq_true (by omega)] at HV
  have e1 : (0 : Int) ≤ (r : Int) := by omega
  have e2 : ¬ (r : Int) < 128 := by omega
  have e3 : ((r : Int) == 65533) = false := beq_false_of_ne (by omega)
  have hs := enc_four r h1 h2
  generalize hE : Utf8.encode (r : Int) = E at *
  have hz : (⟨#[13, 10, 8]⟩ : ByteArray).size = 3 := rfl
  generalize (⟨#[13, 10, 8]⟩ : ByteArray) = S at *
  go_enter Tryd.func50, Tryd.ntmps50
  go_wp2_with fail
  refine HV.out.mono ?_
  rintro e w1 ⟨rfl, rfl⟩
  go_wp2_with fail
  go_step3
  go_wp2_with fail
  go_loopg [9, 10] 0 (fun g s9 s10 wr => s9 = .int .i64 3 ∧ s10 = .int .i64 0 ∧ wr = w1)
  case atStart => exact ⟨rfl, rfl, rfl⟩
  case round =>
    obtain ⟨rfl, rfl, rfl⟩ := hrel
    go_wp2
    rw [Exit.noGoto_ret]
    go_ret
    exact ⟨rfl, Below.refl _ _⟩

set_option maxHeartbeats 4000000 in
set_option maxRecDepth 1000000 in
theorem IndexRune_three (r : Nat) (w : World) (h1 : 2048 ≤ r) (h2 : r < 55296 ∨ 57343 < r ∧ r ≤ 65535) (h3 : r ≠ 65533) :
    Calls Tryd.prog 50 #[.string ⟨#[13, 10, 8]⟩, .int .i32 (r : Int)] w fun e w' => e = .returned (.int .i64 (-1)) ∧ Below w.heap.size w w' := by
  have HV := Hid.mk' (ValidRune_any r w (by omega))
  rw [show okR r = true from decide_eq_true (by omega)] at HV
  have e1 : (0 : Int) ≤ (r : Int) := by omega
  have e2 : ¬ (r : Int) < 128 := by omega
  have e3 : ((r : Int) == 65533) = false := beq_false_of_ne (by omega)
  obtain ⟨a, b, c, hE, hc⟩ := enc_three r h1 h2
  have hz : (⟨#[13, 10, 8]⟩ : ByteArray).size = 3 := rfl
  have hz2 : (⟨#[a, b, c]⟩ : ByteArray).size = 3 := rfl
  have hx : (⟨#[13, 10, 8]⟩ : ByteArray)[2]'(by rw [hz]; omega) = 8 := rfl
  have hy : (⟨#[a, b, c]⟩ : ByteArray)[2]'(by rw [hz2]; omega) = c := rfl
  have he : (⟨#[13, 10, 8]⟩ : ByteArray).extract 3 3 = ⟨#[]⟩ := rfl
  have hn : ((8 : Int) != (c.toNat : Int)) = true := bne_iff_ne.2 (by omega)
  have HIB : Hid (∀ W, Calls Tryd.prog 62 #[.string ⟨#[]⟩, .int .u8 (c.toNat : Int)] W fun e w' => e = .returned (.int .i64 (-1)) ∧ w' = W) := fun W => Tryd.strings_IndexByte ⟨#[]⟩ (c.toNat : Int) W
  generalize (⟨#[a, b, c]⟩ : ByteArray) = E at *
  generalize (⟨#[13, 10, 8]⟩ : ByteArray) = S at *
  go_enter Tryd.func50, Tryd.ntmps50
  go_wp2_with fail
  refine HV.out.mono ?_
  rintro e w1 ⟨rfl, rfl⟩
  go_wp2_with fail
  go_step3
  go_wp2_with fail
  go_loopg [9, 10] 0 (fun g s9 s10 wr => s9 = .int .i64 2 ∧ s10 = .int .i64 0 ∧ wr = w1)
  case atStart => exact ⟨rfl, rfl, rfl⟩
  case round =>
    obtain ⟨rfl, rfl, rfl⟩ := hrel
    go_wp2_with fail
    go_step3
    go_wp2_with fail
    go_quiet (fail)
    have HB := Hid.mk' (below_drewN (Below.refl wr.heap.size wr) nq)
    generalize wr.drewN nq = w2 at *
    go_wp2_with fail
    go_quiet ((go_at_call 62; refine Calls.quiet_of_same (HIB.out _)))
    have HB2 := Hid.mk' (below_drewN HB.out nq)
    go_wp2_with fail
    simp only [Exit.noGoto_ret, Exit.inBlock, Exit.then]
    go_ret
    exact ⟨rfl, HB2.out⟩

set_option maxHeartbeats 4000000 in
set_option maxRecDepth 1000000 in
theorem IndexRune_two (r : Nat) (w : World) (h1 : 128 ≤ r) (h2 : r < 2048) :
    Calls Tryd.prog 50 #[.string ⟨#[13, 10, 8]⟩, .int .i32 (r : Int)] w fun e w' => e = .returned (.int .i64 (-1)) ∧ Below w.heap.size w w' := by
  have HV := Hid.mk' (ValidRune_any r w (by omega))
  rw [show okR r = true from decide_eq_true (by omega)] at HV
  have e1 : (0 : Int) ≤ (r : Int) := by omega
  have e2 : ¬ (r : Int) < 128 := by omega
  have e3 : ((r : Int) == 65533) = false := beq_false_of_ne (by omega)
  obtain ⟨a, c, hE, hc⟩ := enc_two r h1 h2
  have hz : (⟨#[13, 10, 8]⟩ : ByteArray).size = 3 := rfl
  have hz2 : (⟨#[a, c]⟩ : ByteArray).size = 2 := rfl
  have hx : (⟨#[13, 10, 8]⟩ : ByteArray)[1]'(by rw [hz]; omega) = 10 := rfl
  have hy : (⟨#[a, c]⟩ : ByteArray)[1]'(by rw [hz2]; omega) = c := rfl
  have he : (⟨#[13, 10, 8]⟩ : ByteArray).extract 2 3 = ⟨#[8]⟩ := rfl
  have hn : ((10 : Int) != (c.toNat : Int)) = true := bne_iff_ne.2 (by omega)
  have HIB : Hid (∀ W, Calls Tryd.prog 62 #[.string ⟨#[8]⟩, .int .u8 (c.toNat : Int)] W fun e w' => e = .returned (.int .i64 (-1)) ∧ w' = W) := fun W => by
    have h := Tryd.strings_IndexByte ⟨#[8]⟩ (c.toNat : Int) W
    have e : Lib.indexByte (⟨#[8]⟩ : ByteArray).data.toList (c.toNat : Int).toNat.toUInt8 = -1 := by
      have hc2 : ((8 : UInt8) == c) = false := beq_false_of_ne (fun e => by rw [← e] at hc; revert hc; decide)
      simp [Lib.indexByte, hc2]
    rw [e] at h
    exact h
  generalize (⟨#[a, c]⟩ : ByteArray) = E at *
  generalize (⟨#[13, 10, 8]⟩ : ByteArray) = S at *
  go_enter Tryd.func50, Tryd.ntmps50
  go_wp2_with fail
  refine HV.out.mono ?_
  rintro e w1 ⟨rfl, rfl⟩
  go_wp2_with fail
  go_step3
  go_wp2_with fail
  go_loopg [9, 10] 0 (fun g s9 s10 wr => s9 = .int .i64 1 ∧ s10 = .int .i64 0 ∧ wr = w1)
  case atStart => exact ⟨rfl, rfl, rfl⟩
  case round =>
    obtain ⟨rfl, rfl, rfl⟩ := hrel
    go_wp2_with fail
    go_step3
    go_wp2_with fail
    go_quiet (fail)
    have HB := Hid.mk' (below_drewN (Below.refl wr.heap.size wr) nq)
    generalize wr.drewN nq = w2 at *
    go_wp2_with fail
    go_quiet ((go_at_call 62; refine Calls.quiet_of_same (HIB.out _)))
    have HB2 := Hid.mk' (below_drewN HB.out nq)
    go_wp2_with fail
    simp only [Exit.noGoto_ret, Exit.inBlock, Exit.then]
    go_ret
    exact ⟨rfl, HB2.out⟩

theorem IndexRune_high (r : Nat) (w : World) (h1 : 128 ≤ r) (h2 : r ≤ 2147483647) :
    Calls Tryd.prog 50 #[.string ⟨#[13, 10, 8]⟩, .int .i32 (r : Int)] w fun e w' => e = .returned (.int .i64 (-1)) ∧ Below w.heap.size w w' := by
  by_cases h3 : r = 65533
  · subst h3; exact IndexRune_error w
  cases hb : okR r with
  | false => exact IndexRune_bad r w h1 h2 h3 hb
  | true =>
    have hb := of_decide_eq_true hb
    by_cases h4 : r < 2048
    · exact IndexRune_two r w h1 h4
    by_cases h5 : r ≤ 65535
    · exact IndexRune_three r w (by omega) (by omega) h3
    · exact IndexRune_four r w (by omega) (by omega)
end Go.Proofs.YtomgnnbcaficaaaDoor.L
