/-
  The cells of Keys and of a three of bytes; the numbers of their types; no condition.
-/
import Derived.Test.YtomgnnbcaficaaaDoorKPlain
import Derived.Test.YtomgnnbcaficaaaDoorWMem
import Derived.Test.YtomgnnbcaficaaaDoorQRow0
import Derived.Lib.ConvBytes
namespace Go.Proofs.YtomgnnbcaficaaaDoor.K
open Go.RowKit Go.Proofs.YtomgnnbcaficaaaDoor Go.Proofs.YtomgnnbcaficaaaDoor.W Go.Proofs.YtomgnnbcaficaaaDoor.Q

/-- a text -/
def bs (l : List UInt8) : ByteArray := ⟨l.toArray⟩
theorem bs_size (l : List UInt8) : (bs l).size = l.length := size_mk l
theorem bs_of (s : ByteArray) : bs s.data.toList = s := by unfold bs; rw [Array.toArray_toList]
theorem bs_list (l : List UInt8) : (bs l).toList = l := by rw [ByteArray.toList_eq]; rfl
theorem bs_app (a b : List UInt8) : bs a ++ bs b = bs (a ++ b) := bytes_append a b
theorem bs_get (l : List UInt8) (k : Nat) (h : k < l.length) (h2 : k < (bs l).size) : (bs l)[k]'h2 = l[k]'h := rfl

/-- Keys as a value -/
def KV (k : List UInt8) : Value := .agg (bcells k).toArray
/-- a three of bytes as a value -/
def T3 (f g c : UInt8) : Value := .agg #[.int .u8 (f.toNat : Int), .int .u8 (g.toNat : Int), .int .u8 (c.toNat : Int)]

theorem u8_bd (x : UInt8) : (0 : Int) ≤ (x.toNat : Int) ∧ (x.toNat : Int) ≤ 255 := by have := x.toNat_lt; omega
theorem bcells_get (k : List UInt8) (j : Nat) (hj : j < k.length) : (bcells k)[j]? = some (.int .u8 ((k.getD j 0).toNat : Int)) := by
  unfold bcells
  rw [List.getElem?_map, List.getD_eq_getElem?_getD, List.getElem?_eq_getElem hj]
  rfl
theorem bcells_lv (k : List UInt8) (hk : k.length = 38) (f : Nat) (hf : f < 19) : (bcells k)[f]? = some (.int .u8 ((lv k f).toNat : Int)) := bcells_get k f (by omega)
theorem bcells_ch (k : List UInt8) (hk : k.length = 38) (f : Nat) (hf : f < 19) : (bcells k)[19 + f]? = some (.int .u8 ((ch k f).toNat : Int)) := bcells_get k (19 + f) (by omega)
theorem bcells_put (k : List UInt8) (f : Nat) (a b : UInt8) : bcells (put k f a b) = ((bcells k).set f (.int .u8 (a.toNat : Int))).set (19 + f) (.int .u8 (b.toNat : Int)) := by
  unfold put bcells
  rw [List.map_set, List.map_set]

theorem zero_of {P : Program} {t : TypeId} {z : Value} {n : Nat} (h : (P.info? t).map (fun i => (i.zero, i.size)) = some (some z, n)) : (∀ w, (zeroValue t).run P w = .ok z w) ∧ (P.info? t).map (·.size) = some n := by
  cases hi : P.info? t with
  | none => rw [hi] at h; simp at h
  | some i =>
    rw [hi] at h
    simp only [Option.map_some, Option.some.injEq, Prod.mk.injEq] at h
    exact ⟨fun w => by simp [zeroValue, typeInfo, hi, h.1], by simp [h.2]⟩

/-- no key anywhere -/
def noK : List UInt8 := List.replicate 38 0
theorem noK_len : noK.length = 38 := rfl
theorem infoK : (Tryd.prog.info? 26).map (fun i => (i.zero, i.size)) = some (some (KV noK), 38) := by kernel_rfl
theorem infoL : (Tryd.prog.info? 24).map (·.size) = some 19 := by kernel_rfl
theorem zeroK : ∀ w, (zeroValue 26).run Tryd.prog w = .ok (.agg (bcells noK).toArray) w := (zero_of infoK).1
theorem sizeK : (Tryd.prog.info? 26).map (·.size) = some 38 := (zero_of infoK).2
theorem sizeKV (k : List UInt8) (hk : k.length = 38) : (Tryd.prog.info? 26).map (·.size) = some (bcells k).length := by rw [bcells_length, hk]; exact sizeK
end Go.Proofs.YtomgnnbcaficaaaDoor.K
