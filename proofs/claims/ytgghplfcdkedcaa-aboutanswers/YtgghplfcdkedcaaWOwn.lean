/-
  A slice of strings that the call owns; append of names to one of no length; contract of slices.Clone at []string; condition: at most 2^43 names.
-/
import Derived.Test.YtgghplfcdkedcaaWWalk
import Derived.WalkSpells
namespace Go.Proofs.Ytgghplfcdkedcaa.W
open Go.RowKit Go.Lib Go.Proofs.Ytgghplfcdkedcaa Go.Proofs.Ytgghplfcdkedcaa.Q

/-- strings that the call owns from a block on -/
def OwnS (w : World) (base : Nat) (ad : Option Addr) (cap : Nat) (l : List ByteArray) : Prop := OwnR w base 9 1 (.slice ad l.length cap) l.length (scells l)
theorem OwnS.nil (w : World) (base : Nat) : OwnS w base none 0 [] := OwnR.nil _ _ _ _
theorem OwnS.below {w w' : World} {base : Nat} {ad : Option Addr} {cap : Nat} {l : List ByteArray} (h : OwnS w base ad cap l) (hb : Below w.heap.size w w') : OwnS w' base ad cap l := keptBy h hb
theorem scells_one (l : List ByteArray) : ∀ u ∈ scells l, u.oneCell' = true := by
  intro u hu
  obtain ⟨c, _, rfl⟩ := List.mem_map.1 hu
  rfl
theorem OwnS.rd {w : World} {base : Nat} {ad : Option Addr} {cap : Nat} {l : List ByteArray} (h : OwnS w base ad cap l) : RdS w (.slice ad l.length cap) l := by
  unfold OwnS at h
  rcases h.form with ⟨e, e2⟩ | ⟨g, cap', e, _, hg, hc⟩
  · have : l = [] := List.length_eq_zero_iff.1 e2
    subst this
    exact ⟨ad, cap, rfl, by simp, .inl rfl⟩
  · simp only [Value.slice.injEq] at e
    obtain ⟨rfl, _, rfl⟩ := e
    refine ⟨_, cap, rfl, hc, .inr ⟨g, 0, rfl, fun j hj => ?_, hg⟩⟩
    have := h.cells (g := g) rfl j (.string l[j]) (by simp [scells, hj])
    have hadd : (⟨g, 0, none⟩ : Addr).add j = ⟨g, j, none⟩ := by unfold Addr.add; split <;> simp_all
    rw [hadd] at this
    rw [Nat.zero_add]; exact this

theorem run_append_none {P : Program} (w : World) (t ty e : TypeId) (i : TypeInfo) (ht : P.underlying t = some (.slice e)) (hi : P.info? e = some i) (v : Value)
    (hv : v = .slice none 0 0 ∨ ∃ g cap, v = .slice (some ⟨g, 0, none⟩) 0 cap) (a : Option Addr) (c : Nat) :
    (Builtin.append_ #[t, t] ty #[v, .slice a 0 c]).run P w = .ok v w := by
  rcases hv with rfl | ⟨g, cap, rfl⟩
  · cases a with
    | none => simp [Builtin.append_, run_underlying ht, sizeOf, typeInfo, hi, Builtin.lenOf, Builtin.firstCells]
    | some a => simp [Builtin.append_, run_underlying ht, sizeOf, typeInfo, hi, Builtin.lenOf, Builtin.firstCells, loadCells, loadCellsFrom]
  · cases a with
    | none => simp [Builtin.append_, run_underlying ht, sizeOf, typeInfo, hi, Builtin.lenOf, Builtin.firstCells, storeCells]
    | some a => simp [Builtin.append_, run_underlying ht, sizeOf, typeInfo, hi, Builtin.lenOf, Builtin.firstCells, loadCells, loadCellsFrom, storeCells]

/-- append(x, names...), x of no length -/
theorem run_append_names (w : World) (ty : TypeId) (base : Nat) (ad0 : Option Addr) (cap0 : Nat) (hown : OwnS w base ad0 cap0 []) (v : Value) (l : List ByteArray) (hv : RdS w v l) (hb : base ≤ w.heap.size) (hn : l.length ≤ 8796093022208) :
    ∃ ad cap w', (Builtin.append_ #[28, 28] ty #[.slice ad0 0 cap0, v]).run Try.prog w = .ok (.slice ad l.length cap) w' ∧ OwnS w' base ad cap l ∧ (∀ B X, B ≤ base → Below B X w → Below B X w') := by
  obtain ⟨i0, hi, hz0, hz1, hz2⟩ := info_parts infoString
  obtain ⟨a, cap, rfl, hc, hr⟩ := hv
  have hform : (Value.slice ad0 0 cap0 = .slice none 0 0) ∨ ∃ g cap, Value.slice ad0 0 cap0 = .slice (some ⟨g, 0, none⟩) 0 cap := by
    unfold OwnS at hown
    rcases hown.form with ⟨h, _⟩ | ⟨g, c, e, _⟩
    · exact .inl h
    · exact .inr ⟨g, c, e⟩
  rcases hr with rfl | ⟨b, off, rfl, hT, hbl⟩
  · have hz := run_append_none (P := Try.prog) w 28 ty 9 i0 Try.underlying28 hi _ hform a cap
    exact ⟨ad0, cap0, w, hz, hown, fun _ _ _ h => h⟩
  · by_cases h0 : l = []
    · subst h0
      have hz := run_append_none (P := Try.prog) w 28 ty 9 i0 Try.underlying28 hi _ hform (some ⟨b, off, none⟩) cap
      exact ⟨ad0, cap0, w, hz, hown, fun _ _ _ h => h⟩
    have hadd : ∀ j, (⟨b, off, none⟩ : Addr).add j = ⟨b, off + j, none⟩ := fun j => by unfold Addr.add; split <;> simp_all
    have hnews : ∀ j u, (scells l)[j]? = some u → w.cell? ((⟨b, off, none⟩ : Addr).add j) = some u := by
      intro j u hu
      have hj : j < l.length := by have := (List.getElem?_eq_some_iff.1 hu).1; rwa [scells_length] at this
      rw [hadd, hT j hj]
      simpa [scells, hj] using hu
    have hl0 : 0 < l.length := by have : l.length ≠ 0 := fun e => h0 (List.length_eq_zero_iff.1 e); omega
    unfold OwnS at hown
    obtain ⟨g, c2, w', a1, a2, a3, _, _⟩ := run_append_R (P := Try.prog) w 28 ty base 9 i0 (.string ⟨#[]⟩) 1 16 Try.underlying28 hi hz0 hz1 hz2 rfl (by decide) _ 0 [] hown ⟨b, off, none⟩ l.length cap (scells l) (by simp [scells]) hnews (scells_one l) hl0 (by unfold maxLen; omega) (by omega) hb _ rfl
    rw [Nat.zero_add] at a1 a2
    rw [List.nil_append] at a2
    exact ⟨_, c2, w', a1, a2, fun B X hB hBW => hBW.grown a3 (by omega) (fun k hk => by have := (hown.lt k hk).1; omega)⟩

/-- the same as a law of the walk -/
theorem wpList_append_names (w : World) {ops : Array Oper} {rest : List Oper} {o : Oper} {a : Act} {Q : Exit → Act → World → Prop} (hwd : Region.wanted o (yielded ops a.tmps) = true) (s x : Operand)
    (ho : o.op = .call { callee := .builtin .append, args := #[s, x], argTypes := #[28, 28] })
    (base : Nat) (ad0 : Option Addr) (cap0 : Nat) (hs : a.eval s = .slice ad0 0 cap0) (hown : OwnS w base ad0 cap0 []) (v : Value) (l : List ByteArray) (hx : a.eval x = v) (hv : RdS w v l) (hb : base ≤ w.heap.size) (hn : l.length ≤ 8796093022208)
    (h : ∀ ad cap w', OwnS w' base ad cap l → (∀ B X, B ≤ base → Below B X w → Below B X w') → wpList Try.prog ops Q rest (a.put o.dst (.slice ad l.length cap)) w') : wpList Try.prog ops Q (o :: rest) a w := by
  refine wpList_step fun K hK => ?_
  rw [if_pos hwd]
  obtain ⟨ad, cap, w', hr, h2, h3⟩ := run_append_names w o.type base ad0 cap0 hown v l hv hb hn
  unfold Oper.wp execOp
  simp only [ho, resolve, invoke, builtin, Sem.run_bind, Sem.run_pure, Result.andThen_ok, List.map_toArray, List.map_cons, List.map_nil, hs, hx, hr]
  exact hK _ _ (h ad cap w' h2 h3)
/-- and in a region that draws its order -/
theorem step_append_names (w : World) {ops : Array Oper} {o : Oper} {a : Act} {K : Act → World → Prop} {Q : Exit → Act → World → Prop} {E : Prop} (hgd : o.guard = none) (s x : Operand)
    (ho : o.op = .call { callee := .builtin .append, args := #[s, x], argTypes := #[28, 28] })
    (base : Nat) (ad0 : Option Addr) (cap0 : Nat) (hs : a.eval s = .slice ad0 0 cap0) (hown : OwnS w base ad0 cap0 []) (v : Value) (l : List ByteArray) (hx : a.eval x = v) (hv : RdS w v l) (hb : base ≤ w.heap.size) (hn : l.length ≤ 8796093022208)
    (h : ∀ ad cap w', OwnS w' base ad cap l → (∀ B X, B ≤ base → Below B X w → Below B X w') → K (a.put o.dst (.slice ad l.length cap)) w') : if Region.wanted o (yielded ops a.tmps) = true then Oper.wp Try.prog o a w K Q else E := by
  have hw : Region.wanted o (yielded ops a.tmps) = true := by simp [Region.wanted, hgd]
  rw [if_pos hw]
  obtain ⟨ad, cap, w', hr, h2, h3⟩ := run_append_names w o.type base ad0 cap0 hown v l hv hb hn
  unfold Oper.wp execOp
  simp only [ho, resolve, invoke, builtin, Sem.run_bind, Sem.run_pure, Result.andThen_ok, List.map_toArray, List.map_cons, List.map_nil, hs, hx, hr]
  exact h ad cap w' h2 h3

set_option maxHeartbeats 4000000 in
theorem Clone_any (w : World) (v : Value) (l : List ByteArray) (hv : RdS w v l) (hn : l.length ≤ 8796093022208) :
    Calls Try.prog 20 #[v] w fun e w' => ∃ ad cap, e = .returned (.slice ad l.length cap) ∧ OwnS w' w.heap.size ad cap l ∧ Below w.heap.size w w' := by
  have HB := Hid.mk' ((Below.refl w.heap.size w).alloc (Nat.le_refl _) (.cells #[] 9))
  have HV := Hid.mk' (hv.below HB.out)
  have HO : Hid (OwnS (w.alloc (.cells #[] 9)) w.heap.size (some ⟨w.heap.size, 0, none⟩) 0 []) := ⟨rfl, .inr ⟨w.heap.size, 0, #[], (0, 0), rfl, Nat.le_refl _, (MapKept.heap_alloc w _).1, .inl rfl, Nat.le_refl _, by decide, rfl, rfl⟩⟩
  obtain ⟨a, c, rfl, hc, hr⟩ := hv
  cases a with
  | none =>
    have hl : l = [] := by
      rcases hr with h | ⟨b, off, e, _⟩
      · exact h
      · cases e
    subst hl
    have hq := fun W : World => Lib.run_eql_slice_nil (P := Try.prog) W 28 9 none 0 c 0 0 Try.underlying28
    go_enter Try.func20, Try.ntmps20
    go_wp2
    go_ret
    exact ⟨none, 0, rfl, OwnS.nil _ _, Below.refl _ _⟩
  | some a =>
    have hq := fun W : World => Lib.run_eql_slice_nil (P := Try.prog) W 28 9 (some a) l.length c 0 0 Try.underlying28
    clear hr
    go_enter Try.func20, Try.ntmps20
    go_wp2_with (at_builtin; refine wpList_append_names _ (by rfl) _ _ rfl w.heap.size _ _ rfl HO.out _ l rfl HV.out (by simp) hn ?_)
    intro ad cap w' ho hb
    have HO1 := Hid.mk' ho
    have HB1 := Hid.mk' (hb _ _ (Nat.le_refl _) HB.out)
    clear ho hb
    go_wp2
    go_ret
    exact ⟨ad, cap, rfl, HO1.out, HB1.out⟩
end Go.Proofs.Ytgghplfcdkedcaa.W
