/-
  A slice of strings that is read; contracts of strings.Index, Contains and Cut at a text of one byte, of strings.Join and about.IsName; conditions: a joined text of at most 2^47 bytes.
-/
import Derived.Test.YtckgkncahaicoaaCPlain
import Derived.Test.YtckgkncahaicoaaCShelf
import Derived.Test.YtckgkncahaicoaaQMem
import Derived.Lib.Strings
import Derived.Lib.Slices
import Derived.Lib.Walk
import Derived.Lib.Bytealg
import Derived.BigQuiet
namespace Go.Proofs.Ytckgkncahaicoaa.C
open Go.RowKit Go.Lib Go.Proofs.Ytckgkncahaicoaa Go.Proofs.Ytckgkncahaicoaa.W Go.Proofs.Ytckgkncahaicoaa.Q

theorem same_bytes (a b : ByteArray) : (a.toList == b.toList) = decide (a = b) := by
  rw [ByteArray.toList_eq, ByteArray.toList_eq]
  by_cases h : a = b
  · subst h; simp
  · rw [decide_eq_false h]
    apply beq_false_of_ne
    intro e
    exact h (ByteArray.ext (Array.toList_inj.1 e))

/-- a slice of strings, read -/
def RdS (w : World) (v : Value) (l : List ByteArray) : Prop :=
  ∃ a cap, v = .slice a l.length cap ∧ l.length ≤ cap ∧ (l = [] ∨ ∃ b off, a = some ⟨b, off, none⟩ ∧ (∀ j (h : j < l.length), w.cell? ⟨b, off + j, none⟩ = some (.string l[j])) ∧ b < w.heap.size)
theorem RdS.below {w w' : World} {v : Value} {l : List ByteArray} (h : RdS w v l) (hb : Below w.heap.size w w') : RdS w' v l := by
  obtain ⟨a, cap, e, hc, hr⟩ := h
  refine ⟨a, cap, e, hc, ?_⟩
  rcases hr with h | ⟨b, off, e2, hT, hbl⟩
  · exact .inl h
  · exact .inr ⟨b, off, e2, fun j h => (hb.cell (p := ⟨b, off + j, none⟩) hbl).trans (hT j h), by have := hb.size; omega⟩
def scells (l : List ByteArray) : List Value := l.map Value.string
theorem scells_length (l : List ByteArray) : (scells l).length = l.length := by simp [scells]
theorem RdS.box {w : World} {b : Nat} {t : TypeId} {l : List ByteArray} (h : Box w b t (scells l)) (c : Nat) (hc : l.length ≤ c) : RdS w (.slice (some ⟨b, 0, none⟩) l.length c) l :=
  ⟨_, _, rfl, hc, .inr ⟨b, 0, rfl, fun j hj => by rw [Nat.zero_add]; exact h.cell (by simp [scells, hj]), h.lt⟩⟩

set_option maxHeartbeats 1000000 in
set_option maxRecDepth 100000 in
theorem IndexByte_any (S : ByteArray) (c : UInt8) (w : World) :
    Calls Try.prog 46 #[.string S, .int .u8 (c.toNat : Int)] w fun e w' => e = .returned (.int .i64 (Lib.indexByte S.data.toList c)) ∧ w' = w := by
  have hc : ((c.toNat : Int)).toNat.toUInt8 = c := by simp
  have HR := fun W : World => Lib.run_indexByteString (P := Try.prog) S (c.toNat : Int) W
  rw [hc] at HR
  go_enter Try.func46, Try.ntmps46
  go_wp2
  rw [run_callFunc_extern Try.func50 (by kernel_rfl) (by kernel_rfl) (by kernel_rfl) (e := Extern.BytealgIndexByte.indexByte) (by kernel_rfl), HR]
  simp only [Result.andThen]
  rw [Oper.upon_value]
  go_wp2
  go_ret
  exact ⟨rfl, rfl⟩

set_option maxHeartbeats 2000000 in
set_option maxRecDepth 100000 in
theorem Index0_one (S : ByteArray) (c : UInt8) (w : World) :
    Calls Try.prog 40 #[.string S, .string ⟨#[c]⟩] w fun e w' => e = .returned (.int .i64 (Lib.indexByte S.data.toList c)) ∧ w' = w := by
  by_cases hs : S = ⟨#[c]⟩
  · subst hs
    have e : Lib.indexByte (⟨#[c]⟩ : ByteArray).data.toList c = 0 := by simp [Lib.indexByte]
    rw [e]
    go_enter Try.func40, Try.ntmps40
    go_wp2
    go_ret
    exact ⟨rfl, rfl⟩
  · have H1 := Hid.mk' (IndexByte_any S c w)
    have hq : ((⟨#[c]⟩ : ByteArray).toList == S.toList) = false := by rw [same_bytes]; exact decide_eq_false (fun e => hs e.symm)
    have hz : (⟨#[c]⟩ : ByteArray).size = 1 := rfl
    have hg : (⟨#[c]⟩ : ByteArray)[0]'(by rw [hz]; omega) = c := rfl
    generalize Lib.indexByte S.data.toList c = R at *
    generalize (⟨#[c]⟩ : ByteArray) = T at *
    go_enter Try.func40, Try.ntmps40
    go_wp2_with fail
    refine H1.out.mono ?_
    rintro e w1 ⟨rfl, rfl⟩
    go_wp2
    go_ret
    exact ⟨rfl, rfl⟩

set_option maxHeartbeats 1000000 in
theorem Index_one (S : ByteArray) (c : UInt8) (w : World) :
    Calls Try.prog 33 #[.string S, .string ⟨#[c]⟩] w fun e w' => e = .returned (.int .i64 (Lib.indexByte S.data.toList c)) ∧ w' = w := by
  have H1 := Hid.mk' (Index0_one S c w)
  generalize Lib.indexByte S.data.toList c = R at *
  generalize (⟨#[c]⟩ : ByteArray) = T at *
  go_enter Try.func33, Try.ntmps33
  go_wp2_with fail
  refine H1.out.mono ?_
  rintro e w1 ⟨rfl, rfl⟩
  go_wp2
  go_ret
  exact ⟨rfl, rfl⟩

/-- is the byte in the text? -/
def inT (S : ByteArray) (c : UInt8) : Bool := decide (c ∈ S.data.toList)

set_option maxHeartbeats 1000000 in
theorem Contains_one (S : ByteArray) (c : UInt8) (w : World) :
    Calls Try.prog 20 #[.string S, .string ⟨#[c]⟩] w fun e w' => e = .returned (.bool (inT S c)) ∧ w' = w := by
  have H1 := Hid.mk' (Index_one S c w)
  unfold inT
  rcases cut_at c S.data.toList with ⟨h1, h2⟩ | ⟨a, b, h1, _, h2⟩
  · rw [decide_eq_false h1]
    rw [h2] at H1
    clear h1 h2
    generalize (⟨#[c]⟩ : ByteArray) = T at *
    go_enter Try.func20, Try.ntmps20
    go_wp2_with fail
    refine H1.out.mono ?_
    rintro e w1 ⟨rfl, rfl⟩
    go_wp2
    go_ret
    exact ⟨rfl, rfl⟩
  · rw [decide_eq_true (by rw [h1]; simp)]
    rw [h2] at H1
    clear h1 h2
    have h0 : (0 : Int) ≤ (a.length : Int) := by omega
    generalize (a.length : Int) = N at *
    generalize (⟨#[c]⟩ : ByteArray) = T at *
    go_enter Try.func20, Try.ntmps20
    go_wp2_with fail
    refine H1.out.mono ?_
    rintro e w1 ⟨rfl, rfl⟩
    go_wp2
    go_ret
    exact ⟨rfl, rfl⟩

/-- what Cut answers -/
def cutOf (c : UInt8) (s : List UInt8) : ByteArray × ByteArray × Bool :=
  if 0 ≤ Lib.indexByte s c then (bs (s.take (Lib.indexByte s c).toNat), bs (s.drop ((Lib.indexByte s c).toNat + 1)), true) else (bs s, ⟨#[]⟩, false)
theorem cutOf_no {c : UInt8} {s : List UInt8} (h : Lib.indexByte s c = -1) : cutOf c s = (bs s, ⟨#[]⟩, false) := by
  unfold cutOf
  rw [if_neg (by omega)]
theorem cutOf_at {c : UInt8} {a b : List UInt8} (h : Lib.indexByte (a ++ c :: b) c = (a.length : Int)) : cutOf c (a ++ c :: b) = (bs a, bs b, true) := by
  unfold cutOf
  rw [h, if_pos (by omega), Int.toNat_natCast]
  simp

set_option maxHeartbeats 4000000 in
set_option maxRecDepth 100000 in
theorem Cut0_one (s : List UInt8) (c : UInt8) (w : World) (hz : s.length ≤ 9223372036854775807) :
    Calls Try.prog 43 #[.string (bs s), .string ⟨#[c]⟩] w fun e w' => e = .returned (.tuple #[.string (cutOf c s).1, .string (cutOf c s).2.1, .bool (cutOf c s).2.2]) ∧ ∃ n, w' = w.drewN n := by
  have H1 := Hid.mk' (Index0_one (bs s) c w)
  rw [data_bs] at H1
  have hT : (⟨#[c]⟩ : ByteArray).size = 1 := rfl
  rcases cut_at c s with ⟨_, h2⟩ | ⟨a, b, h1, _, h2⟩
  · rw [cutOf_no h2]
    rw [h2] at H1
    generalize bs s = S at *
    generalize (⟨#[c]⟩ : ByteArray) = T at *
    go_enter Try.func43, Try.ntmps43
    go_wp2_with fail
    refine H1.out.mono ?_
    rintro e w1 ⟨rfl, rfl⟩
    go_wp2
    go_ret3
    exact ⟨rfl, 0, rfl⟩
  · subst h1
    rw [cutOf_at h2]
    rw [h2] at H1
    have e1 : (bs (a ++ c :: b)).extract 0 a.length = bs a := by rw [bs_take, List.take_left]
    have e2 : (bs (a ++ c :: b)).extract (a.length + 1) (bs (a ++ c :: b)).size = bs b := by rw [bs_drop, List.drop_append, List.drop_eq_nil_of_le (by omega)]; simp
    have hsz : (bs (a ++ c :: b)).size = a.length + (b.length + 1) := by rw [bs_size]; simp
    rw [List.length_append, List.length_cons] at hz
    clear h2
    generalize bs (a ++ c :: b) = S at *
    generalize bs a = A at *
    generalize bs b = B at *
    generalize (⟨#[c]⟩ : ByteArray) = T at *
    generalize a.length = n at *
    rw [hsz] at e2
    go_enter Try.func43, Try.ntmps43
    go_wp2_with fail
    refine H1.out.mono ?_
    rintro e w1 ⟨rfl, rfl⟩
    go_wp2_with fail
    go_quiet (fail)
    go_wp2
    go_ret3
    exact ⟨rfl, nq, rfl⟩

set_option maxHeartbeats 1000000 in
theorem Cut_one (s : List UInt8) (c : UInt8) (w : World) (hz : s.length ≤ 9223372036854775807) :
    Calls Try.prog 36 #[.string (bs s), .string ⟨#[c]⟩] w fun e w' => e = .returned (.tuple #[.string (cutOf c s).1, .string (cutOf c s).2.1, .bool (cutOf c s).2.2]) ∧ ∃ n, w' = w.drewN n := by
  have H1 := Hid.mk' (Cut0_one s c w hz)
  generalize cutOf c s = R at *
  generalize bs s = S at *
  generalize (⟨#[c]⟩ : ByteArray) = T at *
  obtain ⟨r1, r2, r3⟩ := R
  go_enter Try.func36, Try.ntmps36
  go_wp2_with fail
  refine H1.out.mono ?_
  rintro e w1 ⟨rfl, n, rfl⟩
  go_wp2
  go_ret3
  exact ⟨rfl, n, rfl⟩

/-- the names with the text sep between -/
def joined (l : List ByteArray) (sep : List UInt8) : ByteArray := bs (Lib.join (l.map fun x => x.data.toList) sep)
theorem Join_any (w : World) (v : Value) (l : List ByteArray) (sep : List UInt8) (hv : RdS w v l) (h1 : 1 ≤ l.length) (hn : l.length ≤ 17592186044416) (hlen : (Lib.join (l.map fun x => x.data.toList) sep).length ≤ 140737488355328) :
    Calls Try.prog 17 #[v, .string (bs sep)] w fun e w' => e = .returned (.string (joined l sep)) ∧ Below w.heap.size w w' := by
  obtain ⟨a, cap, rfl, hc, hr⟩ := hv
  rcases hr with rfl | ⟨b, off, rfl, t, hb⟩
  · simp at h1
  have H := Try.strings_Join b off cap l (bs sep) w (fun j x hx => by
    obtain ⟨hj, e⟩ := List.getElem?_eq_some_iff.1 hx
    rw [t j hj, e]) hb (by omega) hc (by rw [data_bs]; exact hlen)
  rw [data_bs] at H
  exact H

def isSign (b : UInt8) : Bool := decide (33 ≤ b.toNat ∧ b.toNat ≤ 126)
/-- is it a name? -/
def nameOk (S : ByteArray) : Bool := decide (1 ≤ S.size ∧ S.size ≤ 40) && decide (∀ k (h : k < S.size), isSign S[k] = true)
theorem nameOk_mk {S : ByteArray} (h1 : 1 ≤ S.size) (h2 : S.size ≤ 40) (h : ∀ k (h : k < S.size), isSign S[k] = true) : nameOk S = true := by
  unfold nameOk
  rw [decide_eq_true ⟨h1, h2⟩, decide_eq_true h]
  rfl
theorem nameOk_no {S : ByteArray} (k : Nat) (h : k < S.size) (hs : isSign S[k] = false) : nameOk S = false := by
  unfold nameOk
  have e : decide (∀ k (h : k < S.size), isSign S[k] = true) = false := decide_eq_false (fun hh => by have := hh k h; rw [hs] at this; cases this)
  rw [e, Bool.and_false]
theorem nameOk_len {S : ByteArray} (h : ¬ (1 ≤ S.size ∧ S.size ≤ 40)) : nameOk S = false := by
  unfold nameOk
  rw [decide_eq_false h, Bool.false_and]
theorem nameOk_size {S : ByteArray} (h : nameOk S = true) : 1 ≤ S.size ∧ S.size ≤ 40 := by
  unfold nameOk at h
  rw [Bool.and_eq_true] at h
  exact of_decide_eq_true h.1
theorem nameOk_sign {S : ByteArray} (h : nameOk S = true) : ∀ k (h : k < S.size), isSign S[k] = true := by
  unfold nameOk at h
  rw [Bool.and_eq_true] at h
  exact of_decide_eq_true h.2

set_option maxHeartbeats 4000000 in
theorem IsName_any (S : ByteArray) (w : World) : Calls Try.prog 15 #[.string S] w fun e w' => e = .returned (.bool (nameOk S)) ∧ w' = w := by
  by_cases h1 : S.size < 1
  · rw [nameOk_len (by omega)]
    have h1' : (S.size : Int) < 1 := by omega
    go_enter Try.func15, Try.ntmps15
    go_wp2
    go_ret
    exact ⟨rfl, rfl⟩
  by_cases h2 : 40 < S.size
  · rw [nameOk_len (by omega)]
    have h1' : ¬ (S.size : Int) < 1 := by omega
    have h2' : (40 : Int) < (S.size : Int) := by omega
    go_enter Try.func15, Try.ntmps15
    go_wp2
    go_ret
    exact ⟨rfl, rfl⟩
  have h1' : ¬ (S.size : Int) < 1 := by omega
  have h2' : ¬ (40 : Int) < (S.size : Int) := by omega
  have HT : Hid ((∀ k (h : k < S.size), isSign S[k] = true) → nameOk S = true) := fun h => nameOk_mk (by omega) (by omega) h
  have HF : Hid (∀ k (h : k < S.size), isSign S[k] = false → nameOk S = false) := fun k h hs => nameOk_no k h hs
  generalize nameOk S = R at *
  go_enter Try.func15, Try.ntmps15
  go_wp2_with fail
  go_loopw [14] (fun s14 wr => ∃ k : Nat, k ≤ S.size ∧ s14 = .int .i64 (k : Int) ∧ Hid (∀ a (_ : a < k) (h : a < S.size), isSign S[a] = true) ∧ wr = w) (fun i _ => S.size - (RowKit.intOf i).toNat)
  case atStart => exact ⟨0, Nat.zero_le _, rfl, fun a h => absurd h (Nat.not_lt_zero a), rfl⟩
  case round =>
    obtain ⟨k, hk, rfl, HO, rfl⟩ := hrel
    by_cases hlt : k < S.size
    · have hx0 : (0 : Int) ≤ (S[k].toNat : Int) := by omega
      have hx1 := S[k].toNat_lt
      cases hs : isSign S[k] with
      | true =>
        have HO2 : Hid (∀ a (_ : a < k + 1) (h : a < S.size), isSign S[a] = true) := fun a ha h => by
          by_cases e : a = k
          · subst e; exact hs
          · exact HO.out a (by omega) h
        have hs' := of_decide_eq_true hs
        have q1 : ¬ (S[k].toNat : Int) < 33 := by omega
        have q2 : ¬ (126 : Int) < (S[k].toNat : Int) := by omega
        clear HT HF HO hs hs'
        go_wp2
        go_roundw
        case rel => exact ⟨k + 1, by omega, by go_num, HO2, trivial⟩
        case measure => simp [RowKit.intOf]; omega
      | false =>
        have e : R = false := HF.out k hlt hs
        subst e
        have hs' := of_decide_eq_false hs
        clear HT HF HO hs
        by_cases q1 : (S[k].toNat : Int) < 33
        · clear hs'
          go_wp2
          go_ret
          exact ⟨rfl, rfl⟩
        · have q2 : (126 : Int) < (S[k].toNat : Int) := by omega
          clear hs'
          go_wp2
          go_ret
          exact ⟨rfl, rfl⟩
    · obtain rfl : k = S.size := by omega
      have e : R = true := HT.out (fun a ha => HO.out a ha ha)
      subst e
      clear HT HF HO
      go_wp2
      go_ret
      exact ⟨rfl, rfl⟩
end Go.Proofs.Ytckgkncahaicoaa.C
