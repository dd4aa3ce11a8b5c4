/-
  Laws, of no program: append of a slice of tokens, whatever its length, also where the operation is guarded; contract of slices.Clone at []api.Tok; conditions: the bounds that each names.
-/
import Derived.Test.YtmcoliblkkploaaDoorMrg
import Derived.Test.YtmcoliblkkploaaDoorLives
namespace Go.Proofs.YtmcoliblkkploaaDoor
open Go.RowKit

theorem run_append_zero {P : Program} (w : World) (t ty e : TypeId) (i : TypeInfo) (ht : P.underlying t = some (.slice e)) (hi : P.info? e = some i) (v : Value) (n : Nat)
    (hv : (v = .slice none 0 0 ∧ n = 0) ∨ ∃ g cap, v = .slice (some ⟨g, 0, none⟩) n cap ∧ n ≤ cap) (a : Option Addr) (c : Nat) :
    (Builtin.append_ #[t, t] ty #[v, .slice a 0 c]).run P w = .ok v w := by
  rcases hv with ⟨rfl, rfl⟩ | ⟨g, cap, rfl, h⟩
  · cases a with
    | none => simp [Builtin.append_, run_underlying ht, sizeOf, typeInfo, hi, Builtin.lenOf, Builtin.firstCells]
    | some a => simp [Builtin.append_, run_underlying ht, sizeOf, typeInfo, hi, Builtin.lenOf, Builtin.firstCells, loadCells, loadCellsFrom]
  · cases a with
    | none => simp [Builtin.append_, run_underlying ht, sizeOf, typeInfo, hi, Builtin.lenOf, Builtin.firstCells, h, storeCells]
    | some a => simp [Builtin.append_, run_underlying ht, sizeOf, typeInfo, hi, Builtin.lenOf, Builtin.firstCells, loadCells, loadCellsFrom, h, storeCells]

/-- append(x, y...): x owned, y only read -/
theorem run_append_toks (w : World) (ty : TypeId) (base : Nat) (v : Value) (l m : List Tk) (hown : OwnR w base 34 4 v l.length (tsCells l)) (v2 : Value) (hm : RdL w v2 m) (hb : base ≤ w.heap.size) (hn : l.length + m.length ≤ 1000000000) :
    ∃ v' w', (Builtin.append_ #[24, 24] ty #[v, v2]).run Tryd.prog w = .ok v' w' ∧ OwnR w' base 34 4 v' (l ++ m).length (tsCells (l ++ m)) ∧ w.grownBy w' v.ownBlock := by
  obtain ⟨i0, hi, hz0, hz1, hz2⟩ := info_parts Tryd.infoTok
  obtain ⟨a, cap, rfl, hc, hr⟩ := hm
  by_cases h0 : m = []
  · subst h0
    have hz := run_append_zero (P := Tryd.prog) w 24 ty 34 i0 Tryd.underlying24 hi v l.length (by
      rcases hown.form with h | ⟨g, c, e, _, _, h⟩
      · exact .inl h
      · exact .inr ⟨g, c, e, h⟩) a cap
    exact ⟨v, w, hz, by simpa using hown, World.grownBy.refl _ _⟩
  · rcases hr with h | ⟨b, off, rfl, hT, hbl⟩
    · exact absurd h h0
    have hadd : ∀ j, (⟨b, off, none⟩ : Addr).add j = ⟨b, off + j, none⟩ := fun j => by unfold Addr.add; split <;> simp_all
    have hnews : ∀ j u, (tsCells m)[j]? = some u → w.cell? ((⟨b, off, none⟩ : Addr).add j) = some u := by
      intro j u hu
      have hj : j < m.length * 4 := by have := (List.getElem?_eq_some_iff.1 hu).1; rwa [tsCells_length] at this
      have hk : j / 4 < m.length := by omega
      obtain ⟨q0, q1, q2, q3⟩ := hT (j / 4) hk
      have e := tsCells_at m (j / 4) hk (j % 4) (by omega)
      rw [show j / 4 * 4 + j % 4 = j by omega] at e
      rw [e] at hu
      rw [hadd]
      rcases (by omega : j % 4 = 0 ∨ j % 4 = 1 ∨ j % 4 = 2 ∨ j % 4 = 3) with h | h | h | h
      · rw [h] at hu; simp [tcells] at hu; subst hu; rw [show off + j = off + j / 4 * 4 by omega]; exact q0
      · rw [h] at hu; simp [tcells] at hu; subst hu; rw [show off + j = off + j / 4 * 4 + 1 by omega]; exact q1
      · rw [h] at hu; simp [tcells] at hu; subst hu; rw [show off + j = off + j / 4 * 4 + 2 by omega]; exact q2
      · rw [h] at hu; simp [tcells] at hu; subst hu; rw [show off + j = off + j / 4 * 4 + 3 by omega]; exact q3
    have h1 : ∀ u ∈ tsCells m, u.oneCell' = true := by
      intro u hu
      obtain ⟨t, _, ht⟩ := List.mem_flatMap.1 hu
      exact tcells_one t u ht
    obtain ⟨g, c2, w', a1, a2, a3, _, _⟩ := run_append_R (P := Tryd.prog) w 24 ty base 34 i0 (.agg #[.int .i64 0, .int .i64 0, .int .i64 0, .string ⟨#[]⟩]) 4 40 Tryd.underlying24 hi hz0 hz1 hz2 rfl (by decide) v l.length (tsCells l) hown ⟨b, off, none⟩ m.length cap (tsCells m) (tsCells_length m) hnews h1 (by have : m.length ≠ 0 := fun e => h0 (List.length_eq_zero_iff.1 e); omega) (by unfold maxLen; omega) (by omega) hb _ rfl
    refine ⟨_, w', a1, ?_, a3⟩
    have e1 : (l ++ m).length = l.length + m.length := by simp
    have e2 : tsCells (l ++ m) = tsCells l ++ tsCells m := by simp [tsCells]
    rw [e1, e2]
    exact a2

theorem wpList_append_toks (w : World) {ops : Array Oper} {rest : List Oper} {o : Oper} {a : Act} {Q : Exit → Act → World → Prop} (hwd : Region.wanted o (yielded ops a.tmps) = true) (s x : Operand)
    (ho : o.op = .call { callee := .builtin .append, args := #[s, x], argTypes := #[24, 24] })
    (base : Nat) (v : Value) (l m : List Tk) (hs : a.eval s = v) (hown : OwnR w base 34 4 v l.length (tsCells l)) (v2 : Value) (hx : a.eval x = v2) (hm : RdL w v2 m) (hb : base ≤ w.heap.size) (hn : l.length + m.length ≤ 1000000000)
    (h : ∀ v' w', OwnR w' base 34 4 v' (l ++ m).length (tsCells (l ++ m)) → w.grownBy w' v.ownBlock → wpList Tryd.prog ops Q rest (a.put o.dst v') w') : wpList Tryd.prog ops Q (o :: rest) a w := by
  refine wpList_step fun K hK => ?_
  rw [if_pos hwd]
  obtain ⟨v', w', hr, h2, h3⟩ := run_append_toks w o.type base v l m hown v2 hm hb hn
  unfold Oper.wp execOp
  simp only [ho, resolve, invoke, builtin, Sem.run_bind, Sem.run_pure, Result.andThen_ok, List.map_toArray, List.map_cons, List.map_nil, hs, hx, hr]
  exact hK _ _ (h v' w' h2 h3)

theorem RdL.alloc {w : World} {v : Value} {l : List Tk} (h : RdL w v l) (o : Obj) : RdL (w.alloc o) v l := by
  obtain ⟨a, cap, e, hc, hr⟩ := h
  refine ⟨a, cap, e, hc, ?_⟩
  rcases hr with h | ⟨b, off, e2, hT, hb⟩
  · exact .inl h
  · exact .inr ⟨b, off, e2, hT.below ((Below.refl w.heap.size w).alloc (Nat.le_refl _) o) hb, by simp; omega⟩
theorem RdL.below {w w' : World} {v : Value} {l : List Tk} (h : RdL w v l) (hb : Below w.heap.size w w') : RdL w' v l := by
  obtain ⟨a, cap, e, hc, hr⟩ := h
  refine ⟨a, cap, e, hc, ?_⟩
  rcases hr with h | ⟨b, off, e2, hT, hbl⟩
  · exact .inl h
  · exact .inr ⟨b, off, e2, hT.below hb hbl, by have := hb.size; omega⟩

set_option maxHeartbeats 800000 in
theorem Clone_any (w : World) (v : Value) (l : List Tk) (h : RdL w v l) (hn : l.length ≤ 100000000) :
    Calls Tryd.prog 21 #[v] w fun e w' => ∃ v', e = .returned v' ∧ OwnR w' w.heap.size 34 4 v' l.length (tsCells l) ∧ Below w.heap.size w w' := by
  have hq := h
  obtain ⟨a, cap, rfl, hc, hr⟩ := h
  have heq := @Lib.run_eql_slice_nil
  by_cases h0 : a = none
  · subst h0
    have e0 : l = [] := by
      rcases hr with h | ⟨b, off, e, _⟩
      · exact h
      · cases e
    subst e0
    go_enter Tryd.func21, Tryd.ntmps21
    go_wp2
    go_ret
    exact ⟨_, rfl, OwnR.nil _ _ _ _, Below.refl _ _⟩
  · obtain ⟨ad, rfl⟩ : ∃ ad, a = some ad := by
      cases a with
      | none => exact absurd rfl h0
      | some ad => exact ⟨ad, rfl⟩
    clear h0 hr
    have hb0 := own_built w w.heap.size (Nat.le_refl _) [] (by simp)
    have hq2 := fun o => hq.alloc o
    have HB0 := Hid.mk' hb0
    have HQ := Hid.mk' hq2
    clear hb0 hq2 hq
    go_enter Tryd.func21, Tryd.ntmps21
    go_wp2_with (at_builtin; refine wpList_append_toks _ (by rfl) (.tmp 5) (.tmp 6) rfl w.heap.size (.slice (some ⟨w.heap.size, 0, none⟩) 0 0) [] l rfl HB0.out (.slice (some ad) l.length cap) rfl (HQ.out _) ?c1 ?c2 ?_)
    case c1 => simp
    case c2 => simp; omega
    intro v' w1 hown hgr
    have HO := Hid.mk' hown
    have HBB : Hid (Below w.heap.size w w1) := ((Below.refl _ _).alloc (Nat.le_refl _) _).grown hgr (by simp) (fun k hk => by simp [Value.ownBlock] at hk; omega)
    clear hown hgr
    go_wp2
    go_ret
    exact ⟨_, rfl, by simpa using HO.out, HBB.out⟩
end Go.Proofs.YtmcoliblkkploaaDoor
