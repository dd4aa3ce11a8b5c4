/-
  Ints that a call owns, a slice of ints that is read, append of ints that were just laid; condition: at most 2^44 ints.
-/
import Derived.Test.YtneiiinheimglaaDoorWMem
import Derived.Test.YtneiiinheimglaaDoorQMem
import Derived.Test.YtneiiinheimglaaDoorZPlain
namespace Go.Proofs.YtneiiinheimglaaDoor.Z
open Go.RowKit Go.Lib Go.Proofs.YtneiiinheimglaaDoor Go.Proofs.YtneiiinheimglaaDoor.W Go.Proofs.YtneiiinheimglaaDoor.Q Go.Proofs.YtneiiinheimglaaDoor.C

def icells (l : List Int) : List Value := l.map fun c => .int .i64 c
theorem icells_length (l : List Int) : (icells l).length = l.length := by simp [icells]
theorem icells_one (l : List Int) : ∀ u ∈ icells l, u.oneCell' = true := by
  intro u hu
  obtain ⟨c, _, rfl⟩ := List.mem_map.1 hu
  rfl
theorem icells_app (a b : List Int) : icells (a ++ b) = icells a ++ icells b := by simp [icells]
theorem infoInt : (Tryd.prog.info? 3).map (fun i => (i.zero, i.size, i.bytes)) = some (some (.int .i64 0), 1, 8) := by kernel_rfl
/-- ints that the call owns from a block on -/
def OwnI (w : World) (base : Nat) (v : Value) (l : List Int) : Prop := OwnR w base 3 1 v l.length (icells l)
theorem OwnI.nil (w : World) (base : Nat) : OwnI w base (.slice none 0 0) [] := OwnR.nil _ _ _ _
theorem OwnI.below {w w' : World} {base : Nat} {v : Value} {l : List Int} (h : OwnI w base v l) (hb : Below w.heap.size w w') : OwnI w' base v l := keptBy h hb
/-- append(v, ints that were just laid): v owned -/
theorem wpList_append_i (w : World) {ops : Array Oper} {rest : List Oper} {o : Oper} {a : Act} {Q : Exit → Act → World → Prop} (hwd : Region.wanted o (yielded ops a.tmps) = true) (s x : Operand)
    (ho : o.op = .call { callee := .builtin .append, args := #[s, x], argTypes := #[24, 24] })
    (base : Nat) (v : Value) (l m : List Int) (hs : a.eval s = v) (hown : OwnI w base v l) (ws : Array Value) (hws : ws = (icells m).toArray) (k c : Nat) (hx : a.eval x = .slice (some ⟨w.heap.size, 0, none⟩) k c) (hk : k = m.length) (hm : 0 < m.length) (hb : base ≤ w.heap.size) (hn : l.length + m.length ≤ 17592186044416)
    (h : ∀ v' w', OwnI w' base v' (l ++ m) → (∀ B W, B ≤ base → Below B W w → Below B W w') → wpList Tryd.prog ops Q rest (a.put o.dst v') w') : wpList Tryd.prog ops Q (o :: rest) a (w.alloc (.cells ws 3)) := by
  obtain ⟨i0, hi, hz0, hz1, hz2⟩ := info_parts infoInt
  unfold OwnI at hown h
  subst hws hk
  have hown' : OwnR (w.alloc (.cells (icells m).toArray 3)) base 3 1 v l.length (icells l) := hown.keptAt fun k hk => Below.heap_alloc _ _ _ (hown.lt k hk).2
  obtain ⟨g, c2, w', a1, a2, a3, _, _⟩ := run_append_R (P := Tryd.prog) (w.alloc (.cells (icells m).toArray 3)) 24 o.type base 3 i0 (.int .i64 0) 1 8 Tryd.underlying24 hi hz0 hz1 hz2 rfl (by decide) v l.length (icells l) hown' ⟨w.heap.size, 0, none⟩ m.length c (icells m) (by simp [icells])
    (fun j u hu => World.news_of_block (MapKept.heap_alloc w (.cells (icells m).toArray 3)).1 j u (by simpa using hu)) (icells_one m) hm (by unfold maxLen; omega) (by omega) (by simp; omega) _ rfl
  refine wpList_step fun K hK => ?_
  rw [if_pos hwd]
  unfold Oper.wp execOp
  simp only [ho, resolve, invoke, builtin, Sem.run_bind, Sem.run_pure, Result.andThen_ok, List.map_toArray, List.map_cons, List.map_nil, hs, hx, a1]
  refine hK _ _ (h _ w' ?_ ?_)
  · rw [List.length_append, icells_app]; exact a2
  · exact fun B W hB hBW => (hBW.alloc (by omega) _).grown a3 (by simp; omega) (fun k hk => by have := (hown.lt k hk).1; omega)

/-- a slice of ints, read -/
def RdI (w : World) (v : Value) (l : List Int) : Prop :=
  ∃ a cap, v = .slice a l.length cap ∧ l.length ≤ cap ∧ (l = [] ∨ ∃ b off, a = some ⟨b, off, none⟩ ∧ (∀ j (h : j < l.length), w.cell? ⟨b, off + j, none⟩ = some (.int .i64 l[j])) ∧ b < w.heap.size)
theorem RdI.below {w w' : World} {v : Value} {l : List Int} (h : RdI w v l) (hb : Below w.heap.size w w') : RdI w' v l := by
  obtain ⟨a, cap, e, hc, hr⟩ := h
  refine ⟨a, cap, e, hc, ?_⟩
  rcases hr with h | ⟨b, off, e2, hT, hbl⟩
  · exact .inl h
  · exact .inr ⟨b, off, e2, fun j h => (hb.cell (p := ⟨b, off + j, none⟩) hbl).trans (hT j h), by have := hb.size; omega⟩
theorem RdI.own {w : World} {base : Nat} {v : Value} {l : List Int} (h : OwnI w base v l) : RdI w v l := by
  unfold OwnI at h
  rcases h.form with ⟨rfl, e⟩ | ⟨g, cap, rfl, _, hg, hc⟩
  · have : l = [] := List.length_eq_zero_iff.1 e
    subst this
    exact ⟨none, 0, rfl, by simp, .inl rfl⟩
  · refine ⟨_, cap, rfl, hc, .inr ⟨g, 0, rfl, fun j hj => ?_, hg⟩⟩
    have := h.cells (g := g) rfl j (.int .i64 l[j]) (by simp [icells, hj])
    have hadd : (⟨g, 0, none⟩ : Addr).add j = ⟨g, j, none⟩ := by unfold Addr.add; split <;> simp_all
    rw [hadd] at this
    rw [Nat.zero_add]; exact this

end Go.Proofs.YtneiiinheimglaaDoor.Z
