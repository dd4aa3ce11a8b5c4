/-
  A parser at work in memory: its block, its acts (a row of structs, each with a slice of ints), what a store and an append leave of them; conditions: the bounds that each law names.
-/
import Derived.Test.YtneiiinheimglaaGreatDoorJ12
import Derived.Test.YtneiiinheimglaaGreatDoorJ1
import Derived.Test.YtneiiinheimglaaGreatDoorJ2
import Derived.Laws.Runes
namespace Go.Proofs.YtneiiinheimglaaGreatDoor.B
open Go.RowKit Go.Lib Go.Proofs.YtneiiinheimglaaGreatDoor Go.Proofs.YtneiiinheimglaaGreatDoor.W Go.Proofs.YtneiiinheimglaaGreatDoor.Q Go.Proofs.YtneiiinheimglaaGreatDoor.C Go.Proofs.YtneiiinheimglaaGreatDoor.Z

/-- blocks of ints stay as they are -/
def KeepI (w w' : World) : Prop := ∀ (k : Nat) (cs : Array Value) (fz : Nat × Nat), w.heap[k]? = some (.cells cs 3 fz) → w'.heap[k]? = some (.cells cs 3 fz)
theorem KeepI.refl (w : World) : KeepI w w := fun _ _ _ h => h
theorem KeepI.trans {a b c : World} (h1 : KeepI a b) (h2 : KeepI b c) : KeepI a c := fun k cs fz h => h2 k cs fz (h1 k cs fz h)
theorem KeepI.alloc {a b : World} (h : KeepI a b) (o : Obj) : KeepI a (b.alloc o) := fun k cs fz hk => by
  have h2 := h k cs fz hk
  rw [Below.heap_alloc _ _ _ (Array.getElem?_eq_some_iff.1 h2).1]
  exact h2
theorem KeepI.of {w w' : World} (h : Below w.heap.size w w') : KeepI w w' := fun k cs fz hk => by
  rw [h.block k (Array.getElem?_eq_some_iff.1 hk).1]
  exact hk
theorem KeepI.but {w w' : World} {b : Nat} {t : TypeId} {l : List Value} (hB : Box w b t l) (ht : t ≠ 3) (h : ∀ k, k ≠ b → w'.heap[k]? = w.heap[k]?) : KeepI w w' := fun k cs fz hk => by
  rw [h k (fun e => by
    subst e
    unfold Box at hB
    rw [hB] at hk
    simp only [Option.some.injEq, Obj.cells.injEq] at hk
    exact ht hk.2.1)]
  exact hk

/-- a slice of ints that lies in a block of ints, from its beginning -/
def RdT (w : World) (v : Value) (l : List Int) : Prop :=
  ∃ a cap, v = .slice a l.length cap ∧ l.length ≤ cap ∧ (l = [] ∨ ∃ g cur fz, a = some ⟨g, 0, none⟩ ∧ w.heap[g]? = some (.cells cur 3 fz) ∧ ∀ j (h : j < l.length), cur[j]? = some (.int .i64 l[j]))
theorem RdT.nil (w : World) : RdT w (.slice none 0 0) [] := ⟨none, 0, rfl, Nat.le_refl _, .inl rfl⟩
theorem RdT.keep {w w' : World} {v : Value} {l : List Int} (h : RdT w v l) (hk : KeepI w w') : RdT w' v l := by
  obtain ⟨a, cap, e, hc, hr⟩ := h
  refine ⟨a, cap, e, hc, ?_⟩
  rcases hr with h | ⟨g, cur, fz, e2, hg, hT⟩
  · exact .inl h
  · exact .inr ⟨g, cur, fz, e2, hk _ _ _ hg, hT⟩
theorem RdT.rd {w : World} {v : Value} {l : List Int} (h : RdT w v l) : RdI w v l := by
  obtain ⟨a, cap, e, hc, hr⟩ := h
  refine ⟨a, cap, e, hc, ?_⟩
  rcases hr with h | ⟨g, cur, fz, e2, hg, hT⟩
  · exact .inl h
  · refine .inr ⟨g, 0, e2, fun j hj => ?_, (Array.getElem?_eq_some_iff.1 hg).1⟩
    rw [Nat.zero_add, cell_of_row w g j cur _ fz hg]
    exact hT j hj
theorem RdT.own {w : World} {base : Nat} {v : Value} {l : List Int} (h : OwnI w base v l) : RdT w v l := by
  unfold OwnI OwnR at h
  rcases h.2 with ⟨rfl, e⟩ | ⟨g, cap, cur, fz, rfl, hb, hg, hf, hc, hcm, hcs, ht⟩
  · have : l = [] := List.length_eq_zero_iff.1 e
    subst this
    exact RdT.nil w
  · refine ⟨_, cap, rfl, hc, .inr ⟨g, cur, fz, rfl, hg, fun j hj => ?_⟩⟩
    have e : (cur.toList.take (l.length * 1))[j]? = (icells l)[j]? := by rw [ht]
    rw [Nat.mul_one, List.getElem?_take, if_pos hj] at e
    simpa [icells, hj] using e
theorem RdT.one {w : World} {v : Value} {l : List Int} (h : RdT w v l) : v.oneCell' = true := by
  obtain ⟨a, cap, rfl, _⟩ := h
  rfl

/-- an act's cells -/
def acells (a : Ac) (v : Value) : List Value := [.int .i64 a.kind, .int .i64 a.code, .int .i64 a.mark, .string (bs a.inter), v, .string (bs a.text)]
def asC : List (Ac × Value) → List Value
  | [] => []
  | x :: l => acells x.1 x.2 ++ asC l
theorem asC_length : ∀ l : List (Ac × Value), (asC l).length = l.length * 6
  | [] => rfl
  | x :: l => by
    rw [asC, List.length_append, asC_length l, List.length_cons]
    simp [acells]
    omega
theorem asC_app : ∀ a b : List (Ac × Value), asC (a ++ b) = asC a ++ asC b
  | [], b => rfl
  | x :: a, b => by rw [List.cons_append, asC, asC, asC_app a b, List.append_assoc]
theorem asC_at : ∀ (l : List (Ac × Value)) (k : Nat) (hk : k < l.length) (i : Nat), i < 6 → (asC l)[k * 6 + i]? = (acells l[k].1 l[k].2)[i]?
  | [], k, hk, _, _ => absurd hk (Nat.not_lt_zero _)
  | t :: l, 0, _, i, hi => by
    simp only [asC, Nat.zero_mul, Nat.zero_add, List.getElem_cons_zero]
    rw [List.getElem?_append_left (by simp [acells]; omega)]
  | t :: l, k + 1, hk, i, hi => by
    have ih := asC_at l k (by simpa using hk) i hi
    simp only [asC, List.getElem_cons_succ] at *
    rw [List.getElem?_append_right (by simp [acells]; omega)]
    rw [show (k + 1) * 6 + i - (acells t.1 t.2).length = k * 6 + i by simp [acells]; omega]
    exact ih
theorem acells_one (a : Ac) (v : Value) (hv : v.oneCell' = true) : ∀ u ∈ acells a v, u.oneCell' = true := by
  intro u hu
  simp only [acells, List.mem_cons, List.mem_nil_iff, or_false] at hu
  rcases hu with rfl | rfl | rfl | rfl | rfl | rfl
  · rfl
  · rfl
  · rfl
  · rfl
  · exact hv
  · rfl
theorem asC_one : ∀ (l : List (Ac × Value)), (∀ x ∈ l, x.2.oneCell' = true) → ∀ u ∈ asC l, u.oneCell' = true
  | [], _, u, h => by cases h
  | x :: l, hx, u, h => by
    rw [asC, List.mem_append] at h
    rcases h with h | h
    · exact acells_one x.1 x.2 (hx x (by simp)) u h
    · exact asC_one l (fun y hy => hx y (by simp [hy])) u h
theorem infoAct : (Tryz.prog.info? 24).map (fun i => (i.zero, i.size, i.bytes)) = some (some (.agg #[.int .i64 0, .int .i64 0, .int .i64 0, .string ⟨#[]⟩, .slice none 0 0, .string ⟨#[]⟩]), 6, 80) := by kernel_rfl
/-- acts that the call owns from a block on -/
def OwnA (w : World) (base : Nat) (ad : Option Addr) (cap : Nat) (xs : List (Ac × Value)) : Prop := OwnR w base 24 6 (.slice ad xs.length cap) xs.length (asC xs)
theorem OwnA.nil (w : World) (base : Nat) : OwnA w base none 0 [] := OwnR.nil _ _ _ _
theorem OwnA.below {w w' : World} {base : Nat} {ad : Option Addr} {cap : Nat} {xs : List (Ac × Value)} (h : OwnA w base ad cap xs) (hb : Below w.heap.size w w') : OwnA w' base ad cap xs := keptBy h hb

def blk (ad : Option Addr) : Option Nat := ad.map (·.block)
theorem ownBlock_slice (ad : Option Addr) (n c : Nat) : (Value.slice ad n c).ownBlock = blk ad := by cases ad <;> rfl

/-- append of one act, that lies in block g0, onto acts of one's own -/
theorem run_append_a (w : World) (ty : TypeId) (base : Nat) (ad : Option Addr) (cap : Nat) (l : List (Ac × Value)) (hown : OwnA w base ad cap l) (y : Ac) (vy : Value) (hy1 : vy.oneCell' = true) (g0 c : Nat) (hg0 : w.heap[g0]? = some (.cells (acells y vy).toArray 24 (0, 0))) (hb : base ≤ w.heap.size) (hn : l.length ≤ 1099511627776) :
    ∃ ad' cap' w', (Builtin.append_ #[40, 40] ty #[.slice ad l.length cap, .slice (some ⟨g0, 0, none⟩) 1 c]).run Tryz.prog w = .ok (.slice ad' (l ++ [(y, vy)]).length cap') w' ∧ OwnA w' base ad' cap' (l ++ [(y, vy)]) ∧ (∀ B W, B ≤ base → Below B W w → Below B W w') ∧
      (∀ (k : Nat) (cs : Array Value) (t : TypeId) (fz : Nat × Nat), t ≠ 24 → w.heap[k]? = some (.cells cs t fz) → w'.heap[k]? = some (.cells cs t fz)) ∧ w.heap.size ≤ w'.heap.size := by
  obtain ⟨i0, hi, hz0, hz1, hz2⟩ := info_parts infoAct
  unfold OwnA at hown
  obtain ⟨g, c2, w', a1, a2, a3, _, _⟩ := run_append_R (P := Tryz.prog) w 40 ty base 24 i0 (.agg #[.int .i64 0, .int .i64 0, .int .i64 0, .string ⟨#[]⟩, .slice none 0 0, .string ⟨#[]⟩]) 6 80 Tryz.underlying40 hi hz0 hz1 hz2 rfl (by decide) (.slice ad l.length cap) l.length (asC l) hown ⟨g0, 0, none⟩ 1 c (asC [(y, vy)]) (by simp [asC, acells])
    (fun j u hu => World.news_of_block hg0 j u (by simpa [asC] using hu)) (asC_one [(y, vy)] (fun x hx => by rw [List.mem_singleton.1 hx]; exact hy1)) (by omega) (by unfold maxLen; omega) (by omega) hb _ rfl
  have e1 : (l ++ [(y, vy)]).length = l.length + 1 := by simp
  refine ⟨some ⟨g, 0, none⟩, c2, w', by rw [e1]; exact a1, ?_, ?_, ?_, a3.size⟩
  · unfold OwnA
    rw [e1, asC_app]
    exact a2
  · exact fun B W hB hBW => hBW.grown a3 (by omega) (fun k hk => by have := (hown.lt k hk).1; omega)
  · intro k cs t fz ht hk
    have hlt := (Array.getElem?_eq_some_iff.1 hk).1
    rw [a3.block k hlt (fun e => by
      obtain ⟨cur, fz', hc⟩ := hown.typed k e.symm
      rw [hk] at hc
      simp only [Option.some.injEq, Obj.cells.injEq] at hc
      exact ht hc.2.1)]
    exact hk

/-- a parser's cells, and its acts' slice -/
def rcells (p : Ps) (v : Value) : List Value := [.int .i64 (p.st : Int), .int .i64 p.mark, .string (bs p.inter), .string (bs p.args), .string (bs p.text), v]
/-- what a call leaves of what is older -/
def Fr (base : Nat) (w w' : World) : Prop := ∀ B W, B ≤ base → Below B W w → Below B W w'
theorem Fr.refl (base : Nat) (w : World) : Fr base w w := fun _ _ _ h => h
theorem Fr.trans {base : Nat} {a b c : World} (h1 : Fr base a b) (h2 : Fr base b c) : Fr base a c := fun B W hB h => h2 B W hB (h1 B W hB h)

theorem ai : (24 : TypeId) ≠ 3 := by decide

section
variable {base : Nat} {w w' : World} {b bb : Nat} {p p' : Ps} {ad : Option Addr} {cap : Nat} {xs : List (Ac × Value)}
end
section
variable {base : Nat} {w w' : World} {b bb : Nat} {p p' : Ps} {L : List Ac}
theorem PX.len {xs : List (Ac × Value)} (e : xs.map Prod.fst = L) : xs.length = L.length := by rw [← e]; simp
end
end Go.Proofs.YtneiiinheimglaaGreatDoor.B
