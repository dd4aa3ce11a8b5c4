/-
  Slices of variables, read and owned; appends of bytes and of variables; contracts of slices.Equal and slices.Clone at []api.Var; conditions: the bounds that each names.
-/
import Derived.Test.YtbfiompbngpjoaaDoorEPlain
import Derived.Test.YtbfiompbngpjoaaDoorQMem
import Derived.Lib.Slices
import Derived.BigQuiet
import Derived.Deep.LoopGhost
import Derived.Deep.Draws
import Derived.WalkSpells
namespace Go.Proofs.YtbfiompbngpjoaaDoor.E
open Go.RowKit Go.Lib Go.Proofs.YtbfiompbngpjoaaDoor Go.Proofs.YtbfiompbngpjoaaDoor.W Go.Proofs.YtbfiompbngpjoaaDoor.Q Go.Proofs.YtbfiompbngpjoaaDoor.C

theorem infoVar : (Tryd.prog.info? 30).map (fun i => (i.zero, i.size, i.bytes)) = some (some (.agg #[.string ⟨#[]⟩, .string ⟨#[]⟩, .bool false, .bool false]), 4, 40) := by kernel_rfl
def Vr.val (v : Vr) : Value := .agg #[.string (bs v.name), .string (bs v.value), .bool v.user, .bool v.set]
def vcells (v : Vr) : List Value := [.string (bs v.name), .string (bs v.value), .bool v.user, .bool v.set]
def vsCells : List Vr → List Value
  | [] => []
  | v :: l => vcells v ++ vsCells l
theorem vcells_one (v : Vr) : ∀ u ∈ vcells v, u.oneCell' = true := by
  intro u hu
  simp [vcells] at hu
  rcases hu with rfl | rfl | rfl | rfl <;> rfl
theorem vsCells_one : ∀ (l : List Vr), ∀ u ∈ vsCells l, u.oneCell' = true
  | [], u, h => by cases h
  | v :: l, u, h => by
    rw [vsCells, List.mem_append] at h
    rcases h with h | h
    · exact vcells_one v u h
    · exact vsCells_one l u h
theorem vsCells_length : ∀ l : List Vr, (vsCells l).length = l.length * 4
  | [] => rfl
  | v :: l => by
    rw [vsCells, List.length_append, vsCells_length l, List.length_cons]
    simp [vcells]
    omega
theorem vsCells_app : ∀ a b : List Vr, vsCells (a ++ b) = vsCells a ++ vsCells b
  | [], b => rfl
  | x :: a, b => by rw [List.cons_append, vsCells, vsCells, vsCells_app a b, List.append_assoc]
theorem vsCells_at : ∀ (l : List Vr) (k : Nat) (hk : k < l.length) (i : Nat), i < 4 → (vsCells l)[k * 4 + i]? = (vcells l[k])[i]?
  | [], k, hk, _, _ => absurd hk (Nat.not_lt_zero _)
  | t :: l, 0, _, i, hi => by
    simp only [vsCells, Nat.zero_mul, Nat.zero_add, List.getElem_cons_zero]
    rw [List.getElem?_append_left (by simp [vcells]; omega)]
  | t :: l, k + 1, hk, i, hi => by
    have ih := vsCells_at l k (by simpa using hk) i hi
    simp only [vsCells, List.getElem_cons_succ] at *
    rw [List.getElem?_append_right (by simp [vcells]; omega)]
    rw [show (k + 1) * 4 + i - (vcells t).length = k * 4 + i by simp [vcells]; omega]
    exact ih

/-- a variable lies in block b from the cell o on -/
def Lie (w : World) (b o : Nat) (v : Vr) : Prop := w.cell? ⟨b, o, none⟩ = some (.string (bs v.name)) ∧ w.cell? ⟨b, o + 1, none⟩ = some (.string (bs v.value)) ∧ w.cell? ⟨b, o + 2, none⟩ = some (.bool v.user) ∧ w.cell? ⟨b, o + 3, none⟩ = some (.bool v.set)
theorem Lie.below {w w' : World} {B b o : Nat} {v : Vr} (h : Lie w b o v) (hb : Below B w w') (hlt : b < B) : Lie w' b o v :=
  ⟨(hb.cell (p := ⟨b, _, none⟩) hlt).trans h.1, (hb.cell (p := ⟨b, _, none⟩) hlt).trans h.2.1, (hb.cell (p := ⟨b, _, none⟩) hlt).trans h.2.2.1, (hb.cell (p := ⟨b, _, none⟩) hlt).trans h.2.2.2⟩
/-- a slice of variables, read -/
def RdV (w : World) (v : Value) (l : List Vr) : Prop :=
  ∃ a cap, v = .slice a l.length cap ∧ l.length ≤ cap ∧ (l = [] ∨ ∃ b off, a = some ⟨b, off, none⟩ ∧ (∀ k (h : k < l.length), Lie w b (off + k * 4) l[k]) ∧ b < w.heap.size)
theorem RdV.below {w w' : World} {v : Value} {l : List Vr} (h : RdV w v l) {B : Nat} (hb : Below B w w') (hB : w.heap.size ≤ B) : RdV w' v l := by
  obtain ⟨a, cap, e, hc, hr⟩ := h
  refine ⟨a, cap, e, hc, ?_⟩
  rcases hr with h | ⟨b, off, e2, hT, hbl⟩
  · exact .inl h
  · exact .inr ⟨b, off, e2, fun k h => (hT k h).below hb (by omega), by have := hb.size; omega⟩
theorem RdV.later {w w' : World} {v : Value} {l : List Vr} (h : RdV w v l) (hb : Below w.heap.size w w') : RdV w' v l := h.below hb (Nat.le_refl _)
/-- variables that the call owns from a block on -/
def OwnV (w : World) (base : Nat) (ad : Option Addr) (cap : Nat) (l : List Vr) : Prop := OwnR w base 30 4 (.slice ad l.length cap) l.length (vsCells l)
theorem OwnV.nil (w : World) (base : Nat) : OwnV w base none 0 [] := OwnR.nil _ _ _ _
theorem OwnV.below {w w' : World} {base : Nat} {ad : Option Addr} {cap : Nat} {l : List Vr} (h : OwnV w base ad cap l) (hb : Below w.heap.size w w') : OwnV w' base ad cap l := keptBy h hb
theorem OwnR.low {w : World} {base base' : Nat} {e : TypeId} {size : Nat} {v : Value} {n : Nat} {xs : List Value} (h : OwnR w base e size v n xs) (hb : base' ≤ base) : OwnR w base' e size v n xs := by
  refine ⟨h.1, ?_⟩
  rcases h.2 with hn | ⟨g, cap, cur, fz, rfl, hb', hgg, rest⟩
  · exact .inl hn
  · exact .inr ⟨g, cap, cur, fz, rfl, Nat.le_trans hb hb', hgg, rest⟩
theorem OwnV.rd {w : World} {base : Nat} {ad : Option Addr} {cap : Nat} {l : List Vr} (h : OwnV w base ad cap l) : RdV w (.slice ad l.length cap) l := by
  unfold OwnV at h
  rcases h.form with ⟨e, e2⟩ | ⟨g, cap', e, _, hg, hc⟩
  · have : l = [] := List.length_eq_zero_iff.1 e2
    subst this
    exact ⟨ad, cap, rfl, by simp, .inl rfl⟩
  · simp only [Value.slice.injEq] at e
    obtain ⟨rfl, _, rfl⟩ := e
    refine ⟨_, cap, rfl, hc, .inr ⟨g, 0, rfl, fun k hk => ?_, hg⟩⟩
    have c := fun i hi => vsCells_at l k hk i hi
    have a := fun j u hu => h.cells (g := g) rfl j u hu
    have hadd : ∀ j, (⟨g, 0, none⟩ : Addr).add j = ⟨g, j, none⟩ := fun j => by unfold Addr.add; split <;> simp_all
    simp only [hadd] at a
    rw [Nat.zero_add]
    exact ⟨a _ _ ((c 0 (by omega)).trans rfl), a _ _ ((c 1 (by omega)).trans rfl), a _ _ ((c 2 (by omega)).trans rfl), a _ _ ((c 3 (by omega)).trans rfl)⟩

/-- blocks of variables stay as they are -/
def KeepV (w w' : World) : Prop := ∀ (k : Nat) (cs : Array Value) (fz : Nat × Nat), w.heap[k]? = some (.cells cs 30 fz) → w'.heap[k]? = some (.cells cs 30 fz)
theorem KeepV.refl (w : World) : KeepV w w := fun _ _ _ h => h
theorem KeepV.trans {a b c : World} (h1 : KeepV a b) (h2 : KeepV b c) : KeepV a c := fun k cs fz h => h2 k cs fz (h1 k cs fz h)
theorem KeepV.alloc {a b : World} (h : KeepV a b) (o : Obj) : KeepV a (b.alloc o) := fun k cs fz hk => by
  have h2 := h k cs fz hk
  rw [Below.heap_alloc _ _ _ (Array.getElem?_eq_some_iff.1 h2).1]
  exact h2
theorem KeepV.box {w w' : World} {b : Nat} {l : List Value} (h : KeepV w w') (hB : Box w b 30 l) : Box w' b 30 l := h b _ _ hB
theorem KeepV.of {w w' : World} (h : Below w.heap.size w w') : KeepV w w' := fun k cs fz hk => by
  rw [h.block k (Array.getElem?_eq_some_iff.1 hk).1]
  exact hk

/-- append(v, bytes that lie in a block of their own): v owned -/
theorem run_append_B (w : World) (ty : TypeId) (base : Nat) (v : Value) (l m : List UInt8) (hown : OwnB w base v l) (b : Nat) (ws : Array Value) (hws : ws = (bcells m).toArray) (hg : w.heap[b]? = some (.cells ws 5 (0, 0))) (k c : Nat) (hk : k = m.length) (hm : 0 < m.length) (hb : base ≤ w.heap.size) (hn : l.length + m.length ≤ 100000000000) :
    ∃ v' w', (Builtin.append_ #[34, 34] ty #[v, .slice (some ⟨b, 0, none⟩) k c]).run Tryd.prog w = .ok v' w' ∧ OwnB w' base v' (l ++ m) ∧ (∀ B X, B ≤ base → Below B X w → Below B X w') ∧ KeepV w w' ∧ w.heap.size ≤ w'.heap.size := by
  obtain ⟨i0, hi, hz0, hz1, hz2⟩ := info_parts infoByte
  unfold OwnB at hown ⊢
  subst hws hk
  obtain ⟨g, c2, w', a1, a2, a3, _, _⟩ := run_append_R (P := Tryd.prog) w 34 ty base 5 i0 (.int .u8 0) 1 1 Tryd.underlying34 hi hz0 hz1 hz2 rfl (by decide) v l.length (bcells l) hown ⟨b, 0, none⟩ m.length c (bcells m) (by simp [bcells])
    (fun j u hu => World.news_of_block hg j u (by simpa using hu)) (bcells_one m) hm (by unfold maxLen; omega) (by omega) hb _ rfl
  refine ⟨_, w', a1, ?_, ?_, ?_, a3.size⟩
  · rw [List.length_append, bcells_app]; exact a2
  · exact fun B W hB hBW => hBW.grown a3 (by omega) (fun k hk => by have := (hown.lt k hk).1; omega)
  · intro k cs fz hk
    rw [a3.block k (Array.getElem?_eq_some_iff.1 hk).1 (fun e => by
      obtain ⟨cur, fz', hc⟩ := hown.typed k e.symm
      rw [hk] at hc
      simp at hc)]
    exact hk
/-- the same as a law of the walk: the bytes were just laid -/
theorem wpList_append_b (w : World) {ops : Array Oper} {rest : List Oper} {o : Oper} {a : Act} {Q : Exit → Act → World → Prop} (hwd : Region.wanted o (yielded ops a.tmps) = true) (s x : Operand)
    (ho : o.op = .call { callee := .builtin .append, args := #[s, x], argTypes := #[34, 34] })
    (base : Nat) (v : Value) (l m : List UInt8) (hs : a.eval s = v) (hown : OwnB w base v l) (ws : Array Value) (hws : ws = (bcells m).toArray) (k c : Nat) (hx : a.eval x = .slice (some ⟨w.heap.size, 0, none⟩) k c) (hk : k = m.length) (hm : 0 < m.length) (hb : base ≤ w.heap.size) (hn : l.length + m.length ≤ 100000000000)
    (h : ∀ v' l' w', Hid (l' = l ++ m) → OwnB w' base v' l' → (∀ B X, B ≤ base → Below B X w → Below B X w') → KeepV w w' → w.heap.size ≤ w'.heap.size → wpList Tryd.prog ops Q rest (a.put o.dst v') w') : wpList Tryd.prog ops Q (o :: rest) a (w.alloc (.cells ws 5)) := by
  have hA : Below w.heap.size w (w.alloc (.cells ws 5)) := (Below.refl _ _).alloc (Nat.le_refl _) _
  obtain ⟨v', w', a1, a2, a3, a4, a5⟩ := run_append_B (w.alloc (.cells ws 5)) o.type base v l m (hown.below hA) w.heap.size ws hws (MapKept.heap_alloc w _).1 k c hk hm (by simp; omega) hn
  refine wpList_step fun K hK => ?_
  rw [if_pos hwd]
  unfold Oper.wp execOp
  simp only [ho, resolve, invoke, builtin, Sem.run_bind, Sem.run_pure, Result.andThen_ok, List.map_toArray, List.map_cons, List.map_nil, hs, hx, a1]
  refine hK _ _ (h _ (l ++ m) w' (Hid.mk' rfl) a2 ?_ ?_ ?_)
  · exact fun B W hB hBW => a3 B W hB (hBW.alloc (by omega) _)
  · exact ((KeepV.refl w).alloc _).trans a4
  · simp at a5; omega
/-- and in a region that draws its order -/
theorem step_append_b (w : World) {ops : Array Oper} {o : Oper} {a : Act} {K : Act → World → Prop} {Q : Exit → Act → World → Prop} {E : Prop} (hgd : o.guard = none) (s x : Operand)
    (ho : o.op = .call { callee := .builtin .append, args := #[s, x], argTypes := #[34, 34] })
    (base : Nat) (v : Value) (l m : List UInt8) (hs : a.eval s = v) (hown : OwnB w base v l) (b : Nat) (ws : Array Value) (hws : ws = (bcells m).toArray) (hg : w.heap[b]? = some (.cells ws 5 (0, 0))) (k c : Nat) (hx : a.eval x = .slice (some ⟨b, 0, none⟩) k c) (hk : k = m.length) (hm : 0 < m.length) (hb : base ≤ w.heap.size) (hn : l.length + m.length ≤ 100000000000)
    (h : ∀ v' l' w', Hid (l' = l ++ m) → OwnB w' base v' l' → (∀ B X, B ≤ base → Below B X w → Below B X w') → KeepV w w' → K (a.put o.dst v') w') : if Region.wanted o (yielded ops a.tmps) = true then Oper.wp Tryd.prog o a w K Q else E := by
  have hw : Region.wanted o (yielded ops a.tmps) = true := by simp [Region.wanted, hgd]
  rw [if_pos hw]
  obtain ⟨v', w', a1, a2, a3, a4, _⟩ := run_append_B w o.type base v l m hown b ws hws hg k c hk hm hb hn
  unfold Oper.wp execOp
  simp only [ho, resolve, invoke, builtin, Sem.run_bind, Sem.run_pure, Result.andThen_ok, List.map_toArray, List.map_cons, List.map_nil, hs, hx, a1]
  exact h v' _ w' (Hid.mk' rfl) a2 a3 a4

/-- append(v, x), x just laid -/
theorem wpList_append_v (w : World) {ops : Array Oper} {rest : List Oper} {o : Oper} {a : Act} {Q : Exit → Act → World → Prop} (hwd : Region.wanted o (yielded ops a.tmps) = true) (s x : Operand)
    (ho : o.op = .call { callee := .builtin .append, args := #[s, x], argTypes := #[22, 22] })
    (base : Nat) (ad : Option Addr) (cap : Nat) (l : List Vr) (n : Nat) (hs : a.eval s = .slice ad n cap) (hnl : n = l.length) (hown : OwnV w base ad cap l) (y : Vr) (ws : Array Value) (hws : ws = (vcells y).toArray) (c : Nat) (hx : a.eval x = .slice (some ⟨w.heap.size, 0, none⟩) 1 c) (hb : base ≤ w.heap.size) (hn : l.length ≤ 1099511627776)
    (h : ∀ ad' cap' l' w', Hid (l' = l ++ [y]) → OwnV w' base ad' cap' l' → (∀ B W, B ≤ base → Below B W w → Below B W w') → wpList Tryd.prog ops Q rest (a.put o.dst (.slice ad' l'.length cap')) w') : wpList Tryd.prog ops Q (o :: rest) a (w.alloc (.cells ws 30)) := by
  obtain ⟨i0, hi, hz0, hz1, hz2⟩ := info_parts infoVar
  subst hnl hws
  unfold OwnV at hown h
  have hown' : OwnR (w.alloc (.cells (vcells y).toArray 30)) base 30 4 (.slice ad l.length cap) l.length (vsCells l) := hown.keptAt fun k hk => Below.heap_alloc _ _ _ (hown.lt k hk).2
  obtain ⟨g, c2, w', a1, a2, a3, _, _⟩ := run_append_R (P := Tryd.prog) (w.alloc (.cells (vcells y).toArray 30)) 22 o.type base 30 i0 (.agg #[.string ⟨#[]⟩, .string ⟨#[]⟩, .bool false, .bool false]) 4 40 Tryd.underlying22 hi hz0 hz1 hz2 rfl (by decide) (.slice ad l.length cap) l.length (vsCells l) hown' ⟨w.heap.size, 0, none⟩ 1 c (vsCells [y]) (by simp [vsCells, vcells])
    (fun j u hu => World.news_of_block (MapKept.heap_alloc w (.cells (vcells y).toArray 30)).1 j u (by simpa [vsCells] using hu)) (vsCells_one [y]) (by omega) (by unfold maxLen; omega) (by omega) (by simp; omega) _ rfl
  refine wpList_step fun K hK => ?_
  rw [if_pos hwd]
  unfold Oper.wp execOp
  simp only [ho, resolve, invoke, builtin, Sem.run_bind, Sem.run_pure, Result.andThen_ok, List.map_toArray, List.map_cons, List.map_nil, hs, hx, a1]
  have e1 : (l ++ [y]).length = l.length + 1 := by simp
  have a4 : OwnR w' base 30 4 (.slice (some ⟨g, 0, none⟩) (l ++ [y]).length c2) (l ++ [y]).length (vsCells (l ++ [y])) := by rw [e1, vsCells_app]; exact a2
  have hh := h _ c2 (l ++ [y]) w' (Hid.mk' rfl) a4
  rw [e1] at hh
  refine hK _ _ (hh ?_)
  exact fun B W hB hBW => (hBW.alloc (by omega) _).grown a3 (by simp; omega) (fun k hk => by have := (hown.lt k hk).1; omega)

theorem run_append_zero {P : Program} (w : World) (t ty e : TypeId) (i : TypeInfo) (ht : P.underlying t = some (.slice e)) (hi : P.info? e = some i) (v : Value) (n : Nat)
    (hv : (v = .slice none 0 0 ∧ n = 0) ∨ ∃ g cap, v = .slice (some ⟨g, 0, none⟩) n cap ∧ n ≤ cap) (a : Option Addr) (c : Nat) :
    (Builtin.append_ #[t, t] ty #[v, .slice a 0 c]).run P w = .ok v w := by
  rcases hv with ⟨rfl, rfl⟩ | ⟨g, cap, rfl, h⟩
  · cases a with
    | none => simp [Builtin.append_, run_underlying ht, sizeOf, typeInfo, hi, Builtin.lenOf, Builtin.firstCells]
    | some a => simp [Builtin.append_, run_underlying ht, sizeOf, typeInfo, hi, Builtin.lenOf, Builtin.firstCells, loadCells, loadCellsFrom]
  · cases a with
    | none => simp [Builtin.append_, run_underlying ht, sizeOf, typeInfo, hi, Builtin.lenOf, Builtin.firstCells, h, storeCells]
    | some a => simp [Builtin.append_, run_underlying ht, sizeOf, typeInfo, hi, Builtin.lenOf, Builtin.firstCells, loadCells, loadCellsFrom, h, storeCells]

/-- append(x, y...): x owned, y only read -/
theorem run_append_vars (w : World) (ty : TypeId) (base : Nat) (ad : Option Addr) (cap : Nat) (l m : List Vr) (hown : OwnV w base ad cap l) (v2 : Value) (hm : RdV w v2 m) (hb : base ≤ w.heap.size) (hn : (l.length + m.length) * 40 ≤ 140737488355328) :
    ∃ ad' cap' w', (Builtin.append_ #[22, 22] ty #[.slice ad l.length cap, v2]).run Tryd.prog w = .ok (.slice ad' (l ++ m).length cap') w' ∧ OwnV w' base ad' cap' (l ++ m) ∧ (∀ B X, B ≤ base → Below B X w → Below B X w') := by
  obtain ⟨i0, hi, hz0, hz1, hz2⟩ := info_parts infoVar
  obtain ⟨a, cap2, rfl, hc, hr⟩ := hm
  unfold OwnV at hown
  by_cases h0 : m = []
  · subst h0
    have hz := run_append_zero (P := Tryd.prog) w 22 ty 30 i0 Tryd.underlying22 hi _ l.length (by
      rcases hown.form with h | ⟨g, c, e, _, _, h⟩
      · exact .inl h
      · exact .inr ⟨g, c, e, h⟩) a cap2
    exact ⟨ad, cap, w, by simpa using hz, by simpa [OwnV] using hown, fun _ _ _ h => h⟩
  · rcases hr with h | ⟨b, off, rfl, hT, hbl⟩
    · exact absurd h h0
    have hadd : ∀ j, (⟨b, off, none⟩ : Addr).add j = ⟨b, off + j, none⟩ := fun j => by unfold Addr.add; split <;> simp_all
    have hnews : ∀ j u, (vsCells m)[j]? = some u → w.cell? ((⟨b, off, none⟩ : Addr).add j) = some u := by
      intro j u hu
      have hj : j < m.length * 4 := by have := (List.getElem?_eq_some_iff.1 hu).1; rwa [vsCells_length] at this
      have hk : j / 4 < m.length := by omega
      obtain ⟨q0, q1, q2, q3⟩ := hT (j / 4) hk
      have e := vsCells_at m (j / 4) hk (j % 4) (by omega)
      rw [show j / 4 * 4 + j % 4 = j by omega] at e
      rw [e] at hu
      rw [hadd]
      rcases (by omega : j % 4 = 0 ∨ j % 4 = 1 ∨ j % 4 = 2 ∨ j % 4 = 3) with h | h | h | h
      · rw [h] at hu; simp [vcells] at hu; subst hu; rw [show off + j = off + j / 4 * 4 by omega]; exact q0
      · rw [h] at hu; simp [vcells] at hu; subst hu; rw [show off + j = off + j / 4 * 4 + 1 by omega]; exact q1
      · rw [h] at hu; simp [vcells] at hu; subst hu; rw [show off + j = off + j / 4 * 4 + 2 by omega]; exact q2
      · rw [h] at hu; simp [vcells] at hu; subst hu; rw [show off + j = off + j / 4 * 4 + 3 by omega]; exact q3
    obtain ⟨g, c2, w', a1, a2, a3, _, _⟩ := run_append_R (P := Tryd.prog) w 22 ty base 30 i0 (.agg #[.string ⟨#[]⟩, .string ⟨#[]⟩, .bool false, .bool false]) 4 40 Tryd.underlying22 hi hz0 hz1 hz2 rfl (by decide) _ l.length (vsCells l) hown ⟨b, off, none⟩ m.length cap2 (vsCells m) (vsCells_length m) hnews (vsCells_one m) (by have : m.length ≠ 0 := fun e => h0 (List.length_eq_zero_iff.1 e); omega) (by unfold maxLen; omega) hn hb _ rfl
    refine ⟨_, c2, w', by rw [List.length_append]; exact a1, ?_, fun B X hB hBW => hBW.grown a3 (by omega) (fun k hk => by have := (hown.lt k hk).1; omega)⟩
    unfold OwnV
    rw [List.length_append, vsCells_app]
    exact a2
theorem wpList_append_vars (w : World) {ops : Array Oper} {rest : List Oper} {o : Oper} {a : Act} {Q : Exit → Act → World → Prop} (hwd : Region.wanted o (yielded ops a.tmps) = true) (s x : Operand)
    (ho : o.op = .call { callee := .builtin .append, args := #[s, x], argTypes := #[22, 22] })
    (base : Nat) (ad : Option Addr) (cap : Nat) (l m : List Vr) (n : Nat) (hs : a.eval s = .slice ad n cap) (hnl : n = l.length) (hown : OwnV w base ad cap l) (v2 : Value) (hx : a.eval x = v2) (hm : RdV w v2 m) (hb : base ≤ w.heap.size) (hn : (l.length + m.length) * 40 ≤ 140737488355328)
    (h : ∀ ad' cap' l' w', Hid (l' = l ++ m) → OwnV w' base ad' cap' l' → (∀ B X, B ≤ base → Below B X w → Below B X w') → wpList Tryd.prog ops Q rest (a.put o.dst (.slice ad' l'.length cap')) w') : wpList Tryd.prog ops Q (o :: rest) a w := by
  refine wpList_step fun K hK => ?_
  rw [if_pos hwd]
  subst hnl
  obtain ⟨ad', cap', w', hr, h2, h3⟩ := run_append_vars w o.type base ad cap l m hown v2 hm hb hn
  unfold Oper.wp execOp
  simp only [ho, resolve, invoke, builtin, Sem.run_bind, Sem.run_pure, Result.andThen_ok, List.map_toArray, List.map_cons, List.map_nil, hs, hx, hr]
  exact hK _ _ (h ad' cap' _ w' (Hid.mk' rfl) h2 h3)
end Go.Proofs.YtbfiompbngpjoaaDoor.E
