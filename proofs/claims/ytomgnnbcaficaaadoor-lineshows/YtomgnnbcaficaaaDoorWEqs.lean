/-
  A slice of strings that is read, or owned; contracts of slices.Equal and slices.Clone at []string; condition: at most 2^43 of them.
-/
import Derived.Test.YtomgnnbcaficaaaDoorWMem
import Derived.Test.YtomgnnbcaficaaaDoorQMem
import Derived.Lib.Walk
import Derived.WalkSpells
namespace Go.Proofs.YtomgnnbcaficaaaDoor.W
open Go.RowKit Go.Lib Go.Proofs.YtomgnnbcaficaaaDoor Go.Proofs.YtomgnnbcaficaaaDoor.Q

theorem infoString : (Tryd.prog.info? 9).map (fun i => (i.zero, i.size, i.bytes)) = some (some (.string ⟨#[]⟩), 1, 16) := by kernel_rfl
theorem same_bytes (a b : ByteArray) : (a.toList == b.toList) = decide (a = b) := by
  rw [ByteArray.toList_eq, ByteArray.toList_eq]
  by_cases h : a = b
  · subst h; simp
  · rw [decide_eq_false h]
    apply beq_false_of_ne
    intro e
    exact h (ByteArray.ext (Array.toList_inj.1 e))

/-- a slice of strings, read -/
def RdS (w : World) (v : Value) (l : List ByteArray) : Prop :=
  ∃ a cap, v = .slice a l.length cap ∧ l.length ≤ cap ∧ (l = [] ∨ ∃ b off, a = some ⟨b, off, none⟩ ∧ (∀ j (h : j < l.length), w.cell? ⟨b, off + j, none⟩ = some (.string l[j])) ∧ b < w.heap.size)
theorem RdS.below {w w' : World} {v : Value} {l : List ByteArray} (h : RdS w v l) (hb : Below w.heap.size w w') : RdS w' v l := by
  obtain ⟨a, cap, e, hc, hr⟩ := h
  refine ⟨a, cap, e, hc, ?_⟩
  rcases hr with h | ⟨b, off, e2, hT, hbl⟩
  · exact .inl h
  · exact .inr ⟨b, off, e2, fun j h => (hb.cell (p := ⟨b, off + j, none⟩) hbl).trans (hT j h), by have := hb.size; omega⟩
theorem RdS.front {w : World} {a : Option Addr} {n c : Nat} {l : List ByteArray} (h : RdS w (.slice a n c) l) (m : Nat) (hm : m ≤ l.length) : RdS w (.slice a m c) (l.take m) := by
  obtain ⟨a', c', e, hc, hr⟩ := h
  simp only [Value.slice.injEq] at e
  obtain ⟨rfl, rfl, rfl⟩ := e
  have hl : (l.take m).length = m := by simp; omega
  refine ⟨a, c, by rw [hl], by omega, ?_⟩
  rcases hr with rfl | ⟨b, off, e2, t, hb⟩
  · exact .inl (by simp)
  · refine .inr ⟨b, off, e2, fun j hj => ?_, hb⟩
    rw [t j (by omega)]
    simp
def scells (l : List ByteArray) : List Value := l.map Value.string
theorem scells_length (l : List ByteArray) : (scells l).length = l.length := by simp [scells]
theorem RdS.box {w : World} {b : Nat} {t : TypeId} {l : List ByteArray} (h : Box w b t (scells l)) (c : Nat) (hc : l.length ≤ c) : RdS w (.slice (some ⟨b, 0, none⟩) l.length c) l :=
  ⟨_, _, rfl, hc, .inr ⟨b, 0, rfl, fun j hj => by rw [Nat.zero_add]; exact h.cell (by simp [scells, hj]), h.lt⟩⟩

set_option maxHeartbeats 4000000 in
theorem Equal_same (w : World) (v1 v2 : Value) (l : List ByteArray) (h1 : RdS w v1 l) (h2 : RdS w v2 l) (hn : l.length ≤ 17592186044416) :
    Calls Tryd.prog 11 #[v1, v2] w fun e w' => e = .returned (.bool true) ∧ ∃ q, w' = w.drewN q := by
  obtain ⟨a1, c1, rfl, hc1, hr1⟩ := h1
  obtain ⟨a2, c2, rfl, hc2, hr2⟩ := h2
  go_enter Tryd.func11, Tryd.ntmps11
  go_wp2_with fail
  go_loopw [13] (fun s13 wr => ∃ k q : Nat, k ≤ l.length ∧ s13 = .int .i64 (k : Int) ∧ wr = w.drewN q) (fun i _ => l.length - (RowKit.intOf i).toNat)
  case atStart => exact ⟨0, 0, Nat.zero_le _, rfl, rfl⟩
  case round =>
    obtain ⟨k, q, hk, rfl, rfl⟩ := hrel
    by_cases hlt : k < l.length
    · rcases hr1 with h0 | ⟨b1, o1, rfl, t1, _⟩
      · subst h0; simp at hlt
      rcases hr2 with h0 | ⟨b2, o2, rfl, t2, _⟩
      · subst h0; simp at hlt
      have e1 := t1 k hlt
      have e2 := t2 k hlt
      have f1 : (w.drewN q).cell? ⟨b1, o1 + k, none⟩ = some (.string l[k]) := by rw [World.cell?_drewN]; exact e1
      have f2 : (w.drewN q).cell? ⟨b2, o2 + k, none⟩ = some (.string l[k]) := by rw [World.cell?_drewN]; exact e2
      clear t1 t2 e1 e2
      generalize l[k] = x at *
      have HD : Hid (∀ n, ∃ q', (w.drewN q).drewN n = w.drewN q') := fun n => ⟨_, World.drewN_drewN w q n⟩
      generalize w.drewN q = W at *
      go_wp2_with fail
      go_quiet (fail)
      go_wp2
      go_roundw
      case rel => obtain ⟨q', e⟩ := HD.out nq; exact ⟨k + 1, q', by omega, by go_num, e⟩
      case measure => simp [RowKit.intOf]; omega
    · obtain rfl : k = l.length := by omega
      clear hr1 hr2
      go_wp2
      go_ret
      exact ⟨rfl, q, rfl⟩

/-- strings that the call owns from a block on -/
def OwnS (w : World) (base : Nat) (ad : Option Addr) (cap : Nat) (l : List ByteArray) : Prop := OwnR w base 9 1 (.slice ad l.length cap) l.length (scells l)
theorem OwnS.nil (w : World) (base : Nat) : OwnS w base none 0 [] := OwnR.nil _ _ _ _
theorem OwnS.below {w w' : World} {base : Nat} {ad : Option Addr} {cap : Nat} {l : List ByteArray} (h : OwnS w base ad cap l) (hb : Below w.heap.size w w') : OwnS w' base ad cap l := keptBy h hb
theorem scells_one (l : List ByteArray) : ∀ u ∈ scells l, u.oneCell' = true := by
  intro u hu
  obtain ⟨c, _, rfl⟩ := List.mem_map.1 hu
  rfl
theorem OwnS.rd {w : World} {base : Nat} {ad : Option Addr} {cap : Nat} {l : List ByteArray} (h : OwnS w base ad cap l) : RdS w (.slice ad l.length cap) l := by
  unfold OwnS at h
  rcases h.form with ⟨e, e2⟩ | ⟨g, cap', e, _, hg, hc⟩
  · have : l = [] := List.length_eq_zero_iff.1 e2
    subst this
    exact ⟨ad, cap, rfl, by simp, .inl rfl⟩
  · simp only [Value.slice.injEq] at e
    obtain ⟨rfl, _, rfl⟩ := e
    refine ⟨_, cap, rfl, hc, .inr ⟨g, 0, rfl, fun j hj => ?_, hg⟩⟩
    have := h.cells (g := g) rfl j (.string l[j]) (by simp [scells, hj])
    have hadd : (⟨g, 0, none⟩ : Addr).add j = ⟨g, j, none⟩ := by unfold Addr.add; split <;> simp_all
    rw [hadd] at this
    rw [Nat.zero_add]; exact this

theorem run_append_none {P : Program} (w : World) (t ty e : TypeId) (i : TypeInfo) (ht : P.underlying t = some (.slice e)) (hi : P.info? e = some i) (v : Value)
    (hv : v = .slice none 0 0 ∨ ∃ g cap, v = .slice (some ⟨g, 0, none⟩) 0 cap) (a : Option Addr) (c : Nat) :
    (Builtin.append_ #[t, t] ty #[v, .slice a 0 c]).run P w = .ok v w := by
  rcases hv with rfl | ⟨g, cap, rfl⟩
  · cases a with
    | none => simp [Builtin.append_, run_underlying ht, sizeOf, typeInfo, hi, Builtin.lenOf, Builtin.firstCells]
    | some a => simp [Builtin.append_, run_underlying ht, sizeOf, typeInfo, hi, Builtin.lenOf, Builtin.firstCells, loadCells, loadCellsFrom]
  · cases a with
    | none => simp [Builtin.append_, run_underlying ht, sizeOf, typeInfo, hi, Builtin.lenOf, Builtin.firstCells, storeCells]
    | some a => simp [Builtin.append_, run_underlying ht, sizeOf, typeInfo, hi, Builtin.lenOf, Builtin.firstCells, loadCells, loadCellsFrom, storeCells]

/-- append(x, names...), x of no length -/
theorem run_append_names (w : World) (ty : TypeId) (base : Nat) (ad0 : Option Addr) (cap0 : Nat) (hown : OwnS w base ad0 cap0 []) (v : Value) (l : List ByteArray) (hv : RdS w v l) (hb : base ≤ w.heap.size) (hn : l.length ≤ 8796093022208) :
    ∃ ad cap w', (Builtin.append_ #[31, 31] ty #[.slice ad0 0 cap0, v]).run Tryd.prog w = .ok (.slice ad l.length cap) w' ∧ OwnS w' base ad cap l ∧ (∀ B X, B ≤ base → Below B X w → Below B X w') := by
  obtain ⟨i0, hi, hz0, hz1, hz2⟩ := info_parts infoString
  obtain ⟨a, cap, rfl, hc, hr⟩ := hv
  have hform : (Value.slice ad0 0 cap0 = .slice none 0 0) ∨ ∃ g cap, Value.slice ad0 0 cap0 = .slice (some ⟨g, 0, none⟩) 0 cap := by
    unfold OwnS at hown
    rcases hown.form with ⟨h, _⟩ | ⟨g, c, e, _⟩
    · exact .inl h
    · exact .inr ⟨g, c, e⟩
  rcases hr with rfl | ⟨b, off, rfl, hT, hbl⟩
  · have hz := run_append_none (P := Tryd.prog) w 31 ty 9 i0 Tryd.underlying31 hi _ hform a cap
    exact ⟨ad0, cap0, w, hz, hown, fun _ _ _ h => h⟩
  · by_cases h0 : l = []
    · subst h0
      have hz := run_append_none (P := Tryd.prog) w 31 ty 9 i0 Tryd.underlying31 hi _ hform (some ⟨b, off, none⟩) cap
      exact ⟨ad0, cap0, w, hz, hown, fun _ _ _ h => h⟩
    have hadd : ∀ j, (⟨b, off, none⟩ : Addr).add j = ⟨b, off + j, none⟩ := fun j => by unfold Addr.add; split <;> simp_all
    have hnews : ∀ j u, (scells l)[j]? = some u → w.cell? ((⟨b, off, none⟩ : Addr).add j) = some u := by
      intro j u hu
      have hj : j < l.length := by have := (List.getElem?_eq_some_iff.1 hu).1; rwa [scells_length] at this
      rw [hadd, hT j hj]
      simpa [scells, hj] using hu
    have hl0 : 0 < l.length := by have : l.length ≠ 0 := fun e => h0 (List.length_eq_zero_iff.1 e); omega
    unfold OwnS at hown
    obtain ⟨g, c2, w', a1, a2, a3, _, _⟩ := run_append_R (P := Tryd.prog) w 31 ty base 9 i0 (.string ⟨#[]⟩) 1 16 Tryd.underlying31 hi hz0 hz1 hz2 rfl (by decide) _ 0 [] hown ⟨b, off, none⟩ l.length cap (scells l) (by simp [scells]) hnews (scells_one l) hl0 (by unfold maxLen; omega) (by omega) hb _ rfl
    rw [Nat.zero_add] at a1 a2
    rw [List.nil_append] at a2
    exact ⟨_, c2, w', a1, a2, fun B X hB hBW => hBW.grown a3 (by omega) (fun k hk => by have := (hown.lt k hk).1; omega)⟩

/-- the same as a law of the walk -/
theorem wpList_append_names (w : World) {ops : Array Oper} {rest : List Oper} {o : Oper} {a : Act} {Q : Exit → Act → World → Prop} (hwd : Region.wanted o (yielded ops a.tmps) = true) (s x : Operand)
    (ho : o.op = .call { callee := .builtin .append, args := #[s, x], argTypes := #[31, 31] })
    (base : Nat) (ad0 : Option Addr) (cap0 : Nat) (hs : a.eval s = .slice ad0 0 cap0) (hown : OwnS w base ad0 cap0 []) (v : Value) (l : List ByteArray) (hx : a.eval x = v) (hv : RdS w v l) (hb : base ≤ w.heap.size) (hn : l.length ≤ 8796093022208)
    (h : ∀ ad cap w', OwnS w' base ad cap l → (∀ B X, B ≤ base → Below B X w → Below B X w') → wpList Tryd.prog ops Q rest (a.put o.dst (.slice ad l.length cap)) w') : wpList Tryd.prog ops Q (o :: rest) a w := by
  refine wpList_step fun K hK => ?_
  rw [if_pos hwd]
  obtain ⟨ad, cap, w', hr, h2, h3⟩ := run_append_names w o.type base ad0 cap0 hown v l hv hb hn
  unfold Oper.wp execOp
  simp only [ho, resolve, invoke, builtin, Sem.run_bind, Sem.run_pure, Result.andThen_ok, List.map_toArray, List.map_cons, List.map_nil, hs, hx, hr]
  exact hK _ _ (h ad cap w' h2 h3)
/-- and in a region that draws its order -/
theorem step_append_names (w : World) {ops : Array Oper} {o : Oper} {a : Act} {K : Act → World → Prop} {Q : Exit → Act → World → Prop} {E : Prop} (hgd : o.guard = none) (s x : Operand)
    (ho : o.op = .call { callee := .builtin .append, args := #[s, x], argTypes := #[31, 31] })
    (base : Nat) (ad0 : Option Addr) (cap0 : Nat) (hs : a.eval s = .slice ad0 0 cap0) (hown : OwnS w base ad0 cap0 []) (v : Value) (l : List ByteArray) (hx : a.eval x = v) (hv : RdS w v l) (hb : base ≤ w.heap.size) (hn : l.length ≤ 8796093022208)
    (h : ∀ ad cap w', OwnS w' base ad cap l → (∀ B X, B ≤ base → Below B X w → Below B X w') → K (a.put o.dst (.slice ad l.length cap)) w') : if Region.wanted o (yielded ops a.tmps) = true then Oper.wp Tryd.prog o a w K Q else E := by
  have hw : Region.wanted o (yielded ops a.tmps) = true := by simp [Region.wanted, hgd]
  rw [if_pos hw]
  obtain ⟨ad, cap, w', hr, h2, h3⟩ := run_append_names w o.type base ad0 cap0 hown v l hv hb hn
  unfold Oper.wp execOp
  simp only [ho, resolve, invoke, builtin, Sem.run_bind, Sem.run_pure, Result.andThen_ok, List.map_toArray, List.map_cons, List.map_nil, hs, hx, hr]
  exact h ad cap w' h2 h3

set_option maxHeartbeats 4000000 in
theorem Clone_any (w : World) (v : Value) (l : List ByteArray) (hv : RdS w v l) (hn : l.length ≤ 8796093022208) :
    Calls Tryd.prog 14 #[v] w fun e w' => ∃ ad cap, e = .returned (.slice ad l.length cap) ∧ OwnS w' w.heap.size ad cap l ∧ Below w.heap.size w w' := by
  have HB := Hid.mk' ((Below.refl w.heap.size w).alloc (Nat.le_refl _) (.cells #[] 9))
  have HV := Hid.mk' (hv.below HB.out)
  have HO : Hid (OwnS (w.alloc (.cells #[] 9)) w.heap.size (some ⟨w.heap.size, 0, none⟩) 0 []) := ⟨rfl, .inr ⟨w.heap.size, 0, #[], (0, 0), rfl, Nat.le_refl _, (MapKept.heap_alloc w _).1, .inl rfl, Nat.le_refl _, by decide, rfl, rfl⟩⟩
  obtain ⟨a, c, rfl, hc, hr⟩ := hv
  cases a with
  | none =>
    have hl : l = [] := by
      rcases hr with h | ⟨b, off, e, _⟩
      · exact h
      · cases e
    subst hl
    have hq := fun W : World => Lib.run_eql_slice_nil (P := Tryd.prog) W 31 9 none 0 c 0 0 Tryd.underlying31
    go_enter Tryd.func14, Tryd.ntmps14
    go_wp2
    go_ret
    exact ⟨none, 0, rfl, OwnS.nil _ _, Below.refl _ _⟩
  | some a =>
    have hq := fun W : World => Lib.run_eql_slice_nil (P := Tryd.prog) W 31 9 (some a) l.length c 0 0 Tryd.underlying31
    clear hr
    go_enter Tryd.func14, Tryd.ntmps14
    go_wp2_with (at_builtin; refine wpList_append_names _ (by rfl) _ _ rfl w.heap.size _ _ rfl HO.out _ l rfl HV.out (by simp) hn ?_)
    intro ad cap w' ho hb
    have HO1 := Hid.mk' ho
    have HB1 := Hid.mk' (hb _ _ (Nat.le_refl _) HB.out)
    clear ho hb
    go_wp2
    go_ret
    exact ⟨ad, cap, rfl, HO1.out, HB1.out⟩
end Go.Proofs.YtomgnnbcaficaaaDoor.W
