/-
  Contracts of strings.Builder's WriteString and String at this program, each one application of the library's own theorem; conditions: the new length is at most 140737488355328 bytes.
-/
import Derived.Test.YtomgnnbcaficaaaDoorLShelf
import Derived.Test.YtomgnnbcaficaaaDoorLCutsWalk
import Derived.Test.YtomgnnbcaficaaaDoorKRef
import Derived.Shelf.Strings.BuilderK
namespace Go.Proofs.YtomgnnbcaficaaaDoor.L
open Go.RowKit Go.Shelf Go.Proofs.YtomgnnbcaficaaaDoor Go.Proofs.YtomgnnbcaficaaaDoor.W Go.Proofs.YtomgnnbcaficaaaDoor.Q

theorem WriteString_any (B b : Nat) (xs : List Value) (s : ByteArray) (w : World) (h : Lib.IsBuilderF 50 5 B b xs w) (hlen : xs.length + s.size ≤ 140737488355328) (hBw : B ≤ w.heap.size) :
    Calls Tryd.prog 20 #[.pointer (some ⟨b, 0, none⟩), .string s] w fun e w' => e = .returned (.tuple #[.int .i64 s.size, .nilIface]) ∧ (Lib.BuilderAtF 50 5 B b (.pointer (some ⟨b, 0, none⟩)) (xs ++ Lib.strCells s) w' ∧ Below B w w' ∧ Lib.OthersKept 5 (some b) w w') :=
  Any.Builder_WriteString_k (ρ := Tryd.lays105_ren) { Tryd.lays105 with } Tryd.Builder_Extra_105 B b xs s w h hlen hBw
theorem String_any (B b : Nat) (l : List UInt8) (w : World) (h : Lib.IsBuilderF 50 5 B b (Lib.byteCells l) w) (hBw : B ≤ w.heap.size) :
    Calls Tryd.prog 21 #[.pointer (some ⟨b, 0, none⟩)] w fun e w' => e = .returned (.string ⟨l.toArray⟩) ∧ (Lib.IsBuilderF 50 5 B b (Lib.byteCells l) w' ∧ Below B w w' ∧ Lib.OthersKept 5 (some b) w w') :=
  Any.Builder_String_any_k (ρ := Tryd.lays105_ren) { Tryd.lays105 with } Tryd.Builder_Extra_105 B b l w h hBw
theorem BuilderAtF_keptAt {T e : TypeId} {B b : Nat} {p : Value} {bs : List Value} {w w' : World} (h : Lib.BuilderAtF T e B b p bs w) (hk : ∀ (k : Nat) cur t fz, w.heap[k]? = some (Obj.cells cur t fz) → w'.heap[k]? = w.heap[k]?) : Lib.BuilderAtF T e B b p bs w' := by
  obtain ⟨hB, v, hb, hown, hne⟩ := h
  refine ⟨hB, v, (hk b _ _ _ hb).trans hb, ⟨hown.1, ?_⟩, hne⟩
  rcases hown.2 with hn | ⟨g, cap, cur, fz, hv, hbg, hg, rest⟩
  · exact .inl hn
  · exact .inr ⟨g, cap, cur, fz, hv, hbg, (hk g _ _ _ hg).trans hg, rest⟩
theorem Builder_later {T e : TypeId} {B b : Nat} {bs : List Value} {w w' : World} (h : Lib.IsBuilderF T e B b bs w) (hb : Below w.heap.size w w') : Lib.IsBuilderF T e B b bs w' := by
  have hk : ∀ (k : Nat) cur t fz, w.heap[k]? = some (Obj.cells cur t fz) → w'.heap[k]? = w.heap[k]? := fun k _ _ _ hk => hb.block k (by
    rcases Nat.lt_or_ge k w.heap.size with h' | h'
    · exact h'
    · simp [h'] at hk)
  exact h.elim (fun x => .inl (BuilderAtF_keptAt x hk)) (fun x => .inr (BuilderAtF_keptAt x hk))
theorem Builder_new (w : World) : Lib.IsBuilderF 50 5 w.heap.size w.heap.size (Lib.byteCells []) (w.alloc (.cells #[.pointer none, .slice none 0 0] 50)) :=
  .inl ⟨Nat.le_refl _, .slice none 0 0, by simpa using (MapKept.heap_alloc w (.cells #[.pointer none, .slice none 0 0] 50)).1, ⟨by simp [Lib.byteCells], .inl ⟨rfl, by simp [Lib.byteCells]⟩⟩, by simp [Value.ownBlock]⟩
theorem quoted_snoc (c : UInt8) (l : List UInt8) (b : UInt8) : quoted c (l ++ [b]) = quoted c l ++ [c, b] := by
  induction l with
  | nil => rfl
  | cons a l ih => rw [List.cons_append, quoted, ih, quoted]; rfl
theorem quoted_len (c : UInt8) (l : List UInt8) : (quoted c l).length = 2 * l.length := by
  induction l with
  | nil => rfl
  | cons a l ih => rw [quoted]; simp only [List.length_cons, ih]; omega
theorem byteCells_len (l : List UInt8) : (Lib.byteCells l).length = l.length := by simp [Lib.byteCells]
/-- the keys with a key to quote with -/
def qK (k : List UInt8) : List UInt8 := K.put k 14 2 22
theorem qK_len {k : List UInt8} (hk : k.length = 38) : (qK k).length = 38 := by rw [qK, K.put_length]; exact hk
theorem qK_quote {k : List UInt8} (hk : k.length = 38) (M : List Nat) : (KK (qK k) M).quote 22 = true := by
  show isK (qK k) 14 22 = true
  unfold isK qK
  refine decide_eq_true ⟨?_, ?_⟩
  · unfold K.lv K.put
    rw [List.getD_eq_getElem?_getD, List.getElem?_set_ne (by decide), List.getElem?_set_self (by omega)]
    decide
  · unfold K.ch K.put
    rw [List.getD_eq_getElem?_getD, List.getElem?_set_self (by rw [List.length_set]; omega)]
    rfl
/-- what comes of a text that is quoted -/
theorem quoted_typed {k : List UInt8} (hk : k.length = 38) (M : List Nat) (T : List UInt8) (hT : T.length ≤ 1000) (hc : K.chk (qK k) = 0) : typeT (qK k) M [] false (quoted 22 T) = (⟨T, false, [], T⟩, 0) := by
  have hr : ref ([] : List UInt8).length (qK k) (quoted 22 T).length = 0 := ref_zero.2 ⟨by decide, hc, by rw [quoted_len]; omega⟩
  rw [(typeT_form (qK k) M [] (quoted 22 T) false).elim (fun h => h.2) (fun h => absurd hr h.1)]
  unfold runS
  rw [run_quoted (KK (qK k) M) 22 (qK_quote hk M) T [] (by simp; omega)]
  simp
theorem quoted_bad {k : List UInt8} (M : List Nat) (T : List UInt8) (hc : K.chk (qK k) = 4) : typeT (qK k) M [] false (quoted 22 T) = (⟨[], false, [], []⟩, 4) := by
  have hr : ref ([] : List UInt8).length (qK k) (quoted 22 T).length = 4 := by
    unfold ref
    rw [if_neg (by decide), if_neg (by rw [hc]; decide), hc]
  rw [(typeT_form (qK k) M [] (quoted 22 T) false).elim (fun h => absurd h.1 (by rw [hr]; decide)) (fun h => h.2), hr]
end Go.Proofs.YtomgnnbcaficaaaDoor.L
