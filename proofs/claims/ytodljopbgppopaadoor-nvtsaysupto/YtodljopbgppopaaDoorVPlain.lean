/-
  Plain functions for package nvt, of no program: what is sent, what is read, what waits; laws of them; no condition.
-/
import Derived.Test.YtodljopbgppopaaDoorMem
namespace Go.Proofs.YtodljopbgppopaaDoor.V

/-- a byte as it is sent -/
def put (b : UInt8) : List UInt8 := if b = 10 then [13, 10] else if b = 13 then [13, 0] else [b]
def out : List UInt8 → List UInt8
  | [] => []
  | b :: l => put b ++ out l
def outB (binary : Bool) (l : List UInt8) : List UInt8 := if binary = true then l else out l
/-- what is known once a byte came -/
def tk (cr : Bool) (b : UInt8) : Bool × List UInt8 :=
  if cr = true ∧ b = 10 then (false, [10]) else if cr = true ∧ b = 0 then (false, [13]) else
    (decide (b = 13), (if cr = true then [13] else []) ++ (if b = 13 then [] else [b]))
def rd : Bool → List UInt8 → Bool × List UInt8
  | cr, [] => (cr, [])
  | cr, b :: l => ((rd (tk cr b).1 l).1, (tk cr b).2 ++ (rd (tk cr b).1 l).2)
def flush (cr : Bool) : List UInt8 := if cr = true then [13] else []
def rdB (binary cr : Bool) (l : List UInt8) : Bool × List UInt8 := if binary = true then (false, flush cr ++ l) else rd cr l

theorem out_app (a b : List UInt8) : out (a ++ b) = out a ++ out b := by
  induction a with
  | nil => rfl
  | cons x a ih => simp [out, ih]
theorem out_snoc (l : List UInt8) (k : Nat) (h : k < l.length) : out (l.take (k + 1)) = out (l.take k) ++ put l[k] := by
  rw [List.take_succ_eq_append_getElem h, out_app]; simp [out]
theorem put_len (b : UInt8) : (put b).length ≤ 2 := by unfold put; split <;> (try split) <;> simp
theorem out_len (l : List UInt8) : (out l).length ≤ 2 * l.length := by
  induction l with
  | nil => simp [out]
  | cons x l ih => have := put_len x; simp [out]; omega
theorem out_take_len (l : List UInt8) (k : Nat) : (out (l.take k)).length ≤ 2 * l.length := by
  have := out_len (l.take k)
  have : (l.take k).length ≤ l.length := List.length_take_le' k l
  omega

theorem rd_app (a b : List UInt8) : ∀ cr, rd cr (a ++ b) = ((rd (rd cr a).1 b).1, (rd cr a).2 ++ (rd (rd cr a).1 b).2) := by
  induction a with
  | nil => intro cr; simp [rd]
  | cons x a ih => intro cr; simp [rd, ih]
theorem rd_snoc (cr : Bool) (l : List UInt8) (k : Nat) (h : k < l.length) : rd cr (l.take (k + 1)) = ((tk (rd cr (l.take k)).1 l[k]).1, (rd cr (l.take k)).2 ++ (tk (rd cr (l.take k)).1 l[k]).2) := by
  rw [List.take_succ_eq_append_getElem h, rd_app]; simp [rd]
theorem tk_len (cr : Bool) (b : UInt8) : (tk cr b).2.length + (tk cr b).1.toNat ≤ 1 + cr.toNat := by
  unfold tk
  by_cases h : b = 13
  · subst h; cases cr <;> decide
  · split
    · rename_i h1; simp [h1.1]
    · split
      · rename_i h1; simp [h1.1]
      · simp [h]; cases cr <;> simp
theorem rd_len (l : List UInt8) : ∀ cr, (rd cr l).2.length + (rd cr l).1.toNat ≤ l.length + cr.toNat := by
  induction l with
  | nil => intro cr; simp [rd]
  | cons x l ih => intro cr; have h1 := ih (tk cr x).1; have h2 := tk_len cr x; simp only [rd, List.length_append, List.length_cons]; omega
theorem rd_take_len (cr : Bool) (l : List UInt8) (k : Nat) : (rd cr (l.take k)).2.length ≤ l.length + 1 := by
  have h := rd_len (l.take k) cr
  have : (l.take k).length ≤ l.length := List.length_take_le' k l
  have := Bool.toNat_le cr
  omega
theorem flush_len (cr : Bool) : (flush cr).length ≤ 1 := by cases cr <;> simp [flush]
theorem rdB_len (binary cr : Bool) (l : List UInt8) : (rdB binary cr l).2.length ≤ l.length + 1 := by
  unfold rdB
  split
  · have := flush_len cr; simp; omega
  · have := rd_len l cr
    have := Bool.toNat_le cr
    omega
theorem outB_len (binary : Bool) (l : List UInt8) : (outB binary l).length ≤ 2 * l.length := by
  unfold outB; split
  · omega
  · exact out_len l

theorem rd_put (b : UInt8) (l : List UInt8) : rd false (put b ++ l) = ((rd false l).1, b :: (rd false l).2) := by
  unfold put
  split
  · rename_i h; subst h; simp [rd, tk]
  · split
    · rename_i h; subst h; simp [rd, tk]
    · rename_i h1 h2; simp [rd, tk, h2]
theorem rd_out (l : List UInt8) : rd false (out l) = (false, l) := by
  induction l with
  | nil => rfl
  | cons b l ih => rw [out, rd_put, ih]
theorem rdB_outB (binary : Bool) (l : List UInt8) : rdB binary false (outB binary l) = (false, l) := by
  cases binary
  · simpa [rdB, outB] using rd_out l
  · simp [rdB, outB, flush]
theorem rdB_app (binary cr : Bool) (a b : List UInt8) : rdB binary cr (a ++ b) = ((rdB binary (rdB binary cr a).1 b).1, (rdB binary cr a).2 ++ (rdB binary (rdB binary cr a).1 b).2) := by
  cases binary
  · simpa [rdB] using rd_app a b cr
  · simp [rdB, flush]
end Go.Proofs.YtodljopbgppopaaDoor.V
