/-
  Contracts of strings.Builder's WriteString and String at this program, each one application of the library's own theorem; conditions: the new length is at most 140737488355328 bytes.
-/
import Derived.Test.YtmcoliblkkploaaDoorShelf
import Derived.Test.YtmcoliblkkploaaDoorMem
import Derived.Shelf.Strings.BuilderK
namespace Go.Proofs.YtmcoliblkkploaaDoor
open Go.RowKit Go.Shelf

theorem WriteString_any (B b : Nat) (bs : List Value) (s : ByteArray) (w : World) (h : Lib.IsBuilderF 47 5 B b bs w) (hlen : bs.length + s.size ≤ 140737488355328) (hBw : B ≤ w.heap.size) :
    Calls Tryd.prog 22 #[.pointer (some ⟨b, 0, none⟩), .string s] w fun e w' => e = .returned (.tuple #[.int .i64 s.size, .nilIface]) ∧ (Lib.BuilderAtF 47 5 B b (.pointer (some ⟨b, 0, none⟩)) (bs ++ Lib.strCells s) w' ∧ Below B w w' ∧ Lib.OthersKept 5 (some b) w w') :=
  Any.Builder_WriteString_k (ρ := Tryd.lays155_ren) { Tryd.lays155 with } Tryd.Builder_Extra_155 B b bs s w h hlen hBw
theorem String_any (B b : Nat) (l : List UInt8) (w : World) (h : Lib.IsBuilderF 47 5 B b (Lib.byteCells l) w) (hBw : B ≤ w.heap.size) :
    Calls Tryd.prog 23 #[.pointer (some ⟨b, 0, none⟩)] w fun e w' => e = .returned (.string ⟨l.toArray⟩) ∧ (Lib.IsBuilderF 47 5 B b (Lib.byteCells l) w' ∧ Below B w w' ∧ Lib.OthersKept 5 (some b) w w') :=
  Any.Builder_String_any_k (ρ := Tryd.lays155_ren) { Tryd.lays155 with } Tryd.Builder_Extra_155 B b l w h hBw

/-- a builder is one still where its block and its bytes' stand -/
theorem BuilderAtF.keptAt {T e : TypeId} {B b : Nat} {p : Value} {bs : List Value} {w w' : World} (h : Lib.BuilderAtF T e B b p bs w) (hk : ∀ (k : Nat) cur t fz, w.heap[k]? = some (Obj.cells cur t fz) → t = T ∨ t = e → w'.heap[k]? = w.heap[k]?) : Lib.BuilderAtF T e B b p bs w' := by
  obtain ⟨hB, v, hb, hown, hne⟩ := h
  refine ⟨hB, v, (hk b _ _ _ hb (.inl rfl)).trans hb, ⟨hown.1, ?_⟩, hne⟩
  rcases hown.2 with hn | ⟨g, cap, cur, fz, hv, hbg, hg, rest⟩
  · exact .inl hn
  · exact .inr ⟨g, cap, cur, fz, hv, hbg, (hk g _ _ _ hg (.inr rfl)).trans hg, rest⟩
theorem IsBuilderF.keptAt {T e : TypeId} {B b : Nat} {bs : List Value} {w w' : World} (h : Lib.IsBuilderF T e B b bs w) (hk : ∀ (k : Nat) cur t fz, w.heap[k]? = some (Obj.cells cur t fz) → t = T ∨ t = e → w'.heap[k]? = w.heap[k]?) : Lib.IsBuilderF T e B b bs w' :=
  h.elim (fun x => .inl (BuilderAtF.keptAt x hk)) (fun x => .inr (BuilderAtF.keptAt x hk))
theorem IsBuilderF.later {T e : TypeId} {B b : Nat} {bs : List Value} {w w' : World} (h : Lib.IsBuilderF T e B b bs w) (hb : Below w.heap.size w w') : Lib.IsBuilderF T e B b bs w' :=
  IsBuilderF.keptAt h fun k _ _ _ hk _ => hb.block k (by
    rcases Nat.lt_or_ge k w.heap.size with h' | h'
    · exact h'
    · simp [h'] at hk)
theorem OwnR.others {w w' : World} {base : Nat} {e : TypeId} {size : Nat} {v : Value} {n : Nat} {xs : List Value} (h : OwnR w base e size v n xs) {u : TypeId} {b : Nat} (ho : Lib.OthersKept u (some b) w w') (hne : e ≠ u) (hb : b < base) : OwnR w' base e size v n xs :=
  h.keptAt fun k hk => by
    obtain ⟨cur, fz, hc⟩ := h.typed k hk
    rw [ho k _ hc (fun e => by have := (h.lt k hk).1; simp at e; omega) (fun c f hcc => by simp at hcc; exact hne hcc.2.1), hc]
end Go.Proofs.YtmcoliblkkploaaDoor
