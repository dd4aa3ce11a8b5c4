/-
  The cells of a set of bytes; the numbers of their types; whole numbers of 64 bits as the walk has them; no condition but the bounds that each law names.
-/
import Derived.Test.YtomgnnbcaficaaaDoorHPlain
import Derived.Test.YtomgnnbcaficaaaDoorWMem
import Derived.Test.YtomgnnbcaficaaaDoorQRow0
import Derived.Lib.ConvBytes
namespace Go.Proofs.YtomgnnbcaficaaaDoor.H
open Go.RowKit Go.Lib Go.Proofs.YtomgnnbcaficaaaDoor Go.Proofs.YtomgnnbcaficaaaDoor.W Go.Proofs.YtomgnnbcaficaaaDoor.Q

/-- a text -/
def bs (l : List UInt8) : ByteArray := ⟨l.toArray⟩
theorem bs_size (l : List UInt8) : (bs l).size = l.length := W.size_mk l
theorem bs_of (s : ByteArray) : bs s.data.toList = s := by unfold bs; rw [Array.toArray_toList]
theorem bs_list (l : List UInt8) : (bs l).toList = l := by rw [ByteArray.toList_eq]; rfl
theorem bs_app (a b : List UInt8) : bs a ++ bs b = bs (a ++ b) := bytes_append a b
theorem bs_get (l : List UInt8) (k : Nat) (h : k < l.length) (h2 : k < (bs l).size) : (bs l)[k]'h2 = l[k]'h := rfl

/-- a set as a value -/
def ucells (W : List Nat) : List Value := W.map fun n : Nat => .int .u64 (n : Int)
theorem ucells_length (W : List Nat) : (ucells W).length = W.length := by simp [ucells]
def MV (W : List Nat) : Value := .agg (ucells W).toArray
theorem ucells_get (W : List Nat) (j : Nat) (hj : j < W.length) : (ucells W)[j]? = some (.int .u64 ((W.getD j 0 : Nat) : Int)) := by
  unfold ucells
  rw [List.getElem?_map, List.getD_eq_getElem?_getD, List.getElem?_eq_getElem hj]
  rfl
theorem ucells_one (W : List Nat) : ∀ u ∈ ucells W, u.oneCell' = true := by
  intro u hu
  obtain ⟨c, _, rfl⟩ := List.mem_map.1 hu
  rfl
theorem ucells_set (W : List Nat) (j x : Nat) : ucells (W.set j x) = (ucells W).set j (.int .u64 (x : Int)) := by unfold ucells; rw [List.map_set]

theorem zero_of {P : Program} {t : TypeId} {z : Value} {n : Nat} (h : (P.info? t).map (fun i => (i.zero, i.size)) = some (some z, n)) : (∀ w, (zeroValue t).run P w = .ok z w) ∧ (P.info? t).map (·.size) = some n := by
  cases hi : P.info? t with
  | none => rw [hi] at h; simp at h
  | some i =>
    rw [hi] at h
    simp only [Option.map_some, Option.some.injEq, Prod.mk.injEq] at h
    exact ⟨fun w => by simp [zeroValue, typeInfo, hi, h.1], by simp [h.2]⟩
theorem infoM : (Tryd.prog.info? 30).map (fun i => (i.zero, i.size)) = some (some (MV noW), 4) := by kernel_rfl
theorem infoU : (Tryd.prog.info? 27).map (·.size) = some 1 := by kernel_rfl
theorem zeroM : ∀ w, (zeroValue 30).run Tryd.prog w = .ok (.agg (ucells noW).toArray) w := (zero_of infoM).1
theorem sizeM : (Tryd.prog.info? 30).map (·.size) = some 4 := (zero_of infoM).2
theorem sizeMV {W : List Nat} (h : okW W) : (Tryd.prog.info? 30).map (·.size) = some (ucells W).length := by rw [ucells_length, h.1]; exact sizeM

/-- 64 bits -/
theorem wrap_u64 (n : Nat) (h : n < 18446744073709551616) : IntKind.u64.wrap (n : Int) = (n : Int) := by
  rw [IntKind.wrap_u64]; omega
theorem bit_and (x : Nat) (h : x < 18446744073709551616) : bits .and .u64 (x : Int) 1 = ((x % 2 : Nat) : Int) := by
  have h1 : (BitVec.ofInt 64 (x : Int)).toNat = x := by
    rw [BitVec.ofInt_natCast, BitVec.toNat_ofNat]; exact Nat.mod_eq_of_lt h
  show IntKind.u64.wrap ((BitVec.ofInt 64 (x : Int) &&& BitVec.ofInt 64 1).toNat : Int) = _
  rw [BitVec.toNat_and, h1, show (BitVec.ofInt 64 1).toNat = 1 from rfl, Nat.and_one_is_mod]
  exact wrap_u64 _ (by omega)
theorem bit_or (x y : Nat) (hx : x < 18446744073709551616) (hy : y < 18446744073709551616) : bits .or .u64 (x : Int) (y : Int) = ((x ||| y : Nat) : Int) := by
  have h1 : (BitVec.ofInt 64 (x : Int)).toNat = x := by
    rw [BitVec.ofInt_natCast, BitVec.toNat_ofNat]; exact Nat.mod_eq_of_lt hx
  have h2 : (BitVec.ofInt 64 (y : Int)).toNat = y := by
    rw [BitVec.ofInt_natCast, BitVec.toNat_ofNat]; exact Nat.mod_eq_of_lt hy
  show IntKind.u64.wrap ((BitVec.ofInt 64 (x : Int) ||| BitVec.ofInt 64 (y : Int)).toNat : Int) = _
  rw [BitVec.toNat_or, h1, h2]
  exact wrap_u64 _ (or_lt hx hy)
theorem mem_mod (W : List Nat) (b : Nat) : mem W b = decide (W.getD (b / 64) 0 / 2 ^ (b % 64) % 2 = 1) := by
  unfold mem
  rw [Nat.testBit_eq_decide_div_mod_eq]
theorem cast_div (x k : Nat) : (x : Int) / 2 ^ k = ((x / 2 ^ k : Nat) : Int) := by
  rw [Int.natCast_ediv, Int.natCast_pow]
  rfl
theorem cast_two (k : Nat) : (2 : Int) ^ k = ((2 ^ k : Nat) : Int) := (Int.natCast_pow 2 k).symm
theorem two_ne (k : Nat) : ¬ (2 : Int) ^ k = 0 := by
  rw [cast_two]
  have := Nat.two_pow_pos k
  omega
theorem wrap_two (k : Nat) (h : k < 64) : IntKind.u64.wrap ((2 : Int) ^ k) = 2 ^ k := by
  rw [cast_two]
  exact wrap_u64 _ (two_lt k h)
theorem div_lt (x k : Nat) (h : x < 18446744073709551616) : x / 2 ^ k < 18446744073709551616 := Nat.lt_of_le_of_lt (Nat.div_le_self _ _) h
theorem has_bit (x k : Nat) (h : x < 18446744073709551616) : (bits .and .u64 ((x : Int) / 2 ^ k) 1 == 1) = decide (x / 2 ^ k % 2 = 1) := by
  rw [cast_div, bit_and _ (div_lt x k h)]
  by_cases hk : x / 2 ^ k % 2 = 1
  · rw [hk]; rfl
  · rw [decide_eq_false hk]
    exact beq_false_of_ne (by omega)
theorem in_bit (x k : Nat) (h : x < 18446744073709551616) : ((IntKind.u64.wrap ((x : Int) / 2 ^ k)).tmod 2 == 1) = decide (x / 2 ^ k % 2 = 1) := by
  have hd := div_lt x k h
  rw [cast_div]
  generalize x / 2 ^ k = y at *
  rw [wrap_u64 _ hd, Int.tmod_eq_emod_of_nonneg (by omega)]
  by_cases hk : y % 2 = 1
  · rw [decide_eq_true hk]
    have : (y : Int) % 2 = 1 := by omega
    rw [this]; rfl
  · rw [decide_eq_false hk]
    exact beq_false_of_ne (by omega)
theorem or_two (x k : Nat) (hx : x < 18446744073709551616) (hk : k < 64) : bits .or .u64 (x : Int) ((2 : Int) ^ k) = ((x ||| 2 ^ k : Nat) : Int) := by
  rw [cast_two]
  exact bit_or _ _ hx (two_lt k hk)
end Go.Proofs.YtomgnnbcaficaaaDoor.H
