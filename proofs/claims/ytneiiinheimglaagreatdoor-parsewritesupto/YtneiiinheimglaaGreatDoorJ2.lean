/-
  Laws, of no program: a row of cells that the call owns and of which nothing is frozen but for a mark behind its end; append onto it; no condition but the bounds that each law names.
  Bytes that a call owns, and the string that is made of them; no condition.
  Laws, of no program: a block that holds a list of cells, none of them frozen; it is read and written whole, in part, and cell by cell. No condition but the bounds that each law names.
  Laws, of no program: a load and a store of a row of cells, as one operation of a walk: the row is what the cells hold; and the states that a drawn region keeps. No condition but the bounds that each law names.
-/
import Derived.Deep.AppendLies
import Derived.Lib.ConvBytes
import Derived.Below
import Derived.WalkKit
import Derived.Test.YtneiiinheimglaaGreatDoorProg
import Derived.Laws.BytesString
import Derived.OwnWalk
import Derived.BigQuiet
import Derived.Deep.MidRow
import Derived.Deep.WholeRow
import Derived.Deep.RegionHeld3
namespace Go.Proofs.YtneiiinheimglaaGreatDoor

def Free (cur : Array Value) (fz : Nat × Nat) : Prop := fz = (0, 0) ∨ cur.size ≤ fz.1

def OwnR (w : World) (base : Nat) (e : TypeId) (size : Nat) (v : Value) (n : Nat) (xs : List Value) : Prop :=
  xs.length = n * size ∧
  ((v = .slice none 0 0 ∧ n = 0) ∨
   ∃ g cap cur fz, v = .slice (some ⟨g, 0, none⟩) n cap ∧ base ≤ g ∧ w.heap[g]? = some (.cells cur e fz) ∧ Free cur fz ∧ n ≤ cap ∧ cap ≤ maxLen ∧ cur.size = cap * size ∧ cur.toList.take (n * size) = xs)

section
variable {w : World} {base : Nat} {e : TypeId} {size : Nat} {v : Value} {n : Nat} {xs : List Value}

theorem OwnR.of (h : w.ownsRow base e size v n xs) : OwnR w base e size v n xs := by
  refine ⟨h.1, ?_⟩
  rcases h.2 with hn | ⟨g, cap, cur, hv, hb, hg, rest⟩
  · exact .inl hn
  · exact .inr ⟨g, cap, cur, (0, 0), hv, hb, hg, .inl rfl, rest⟩

theorem OwnR.nil (w : World) (base : Nat) (e : TypeId) (size : Nat) : OwnR w base e size (.slice none 0 0) 0 [] := ⟨by simp, .inl ⟨rfl, rfl⟩⟩

theorem OwnR.lt (h : OwnR w base e size v n xs) : ∀ k, v.ownBlock = some k → base ≤ k ∧ k < w.heap.size := by
  intro k hk
  rcases h.2 with ⟨rfl, _⟩ | ⟨g, cap, cur, fz, rfl, hb, hg, _⟩
  · simp [Value.ownBlock] at hk
  · simp [Value.ownBlock] at hk
    subst hk
    exact ⟨hb, (Array.getElem?_eq_some_iff.1 hg).1⟩

/-- the type of the block that it lies in -/
theorem OwnR.typed (h : OwnR w base e size v n xs) : ∀ k, v.ownBlock = some k → ∃ cur fz, w.heap[k]? = some (.cells cur e fz) := by
  intro k hk
  rcases h.2 with ⟨rfl, _⟩ | ⟨g, cap, cur, fz, rfl, hb, hg, _⟩
  · simp [Value.ownBlock] at hk
  · simp [Value.ownBlock] at hk
    subst hk
    exact ⟨cur, fz, hg⟩

theorem OwnR.keptAt {w' : World} (h : OwnR w base e size v n xs) (hb : ∀ k, v.ownBlock = some k → w'.heap[k]? = w.heap[k]?) : OwnR w' base e size v n xs := by
  refine ⟨h.1, ?_⟩
  rcases h.2 with hn | ⟨g, cap, cur, fz, rfl, hb', hgg, rest⟩
  · exact .inl hn
  · refine .inr ⟨g, cap, cur, fz, rfl, hb', ?_, rest⟩
    rw [hb g rfl]
    exact hgg

theorem OwnR.kept {w' : World} {row : Option Nat} (h : OwnR w base e size v n xs) (hg : w.grownBy w' row) (hne : v.ownBlock = none ∨ v.ownBlock ≠ row) : OwnR w' base e size v n xs :=
  h.keptAt fun k hk => hg.block k (h.lt k hk).2 (by rcases hne with h0 | h0 <;> simp_all)

theorem OwnR.cells (h : OwnR w base e size v n xs) {g : Nat} (hg : v.ownBlock = some g) : ∀ j u, xs[j]? = some u → w.cell? ((⟨g, 0, none⟩ : Addr).add j) = some u := by
  intro j u hu
  rcases h.2 with ⟨rfl, _⟩ | ⟨g', cap, cur, fz, rfl, _, hgg, _, _, _, _, htake⟩
  · simp [Value.ownBlock] at hg
  · simp [Value.ownBlock] at hg
    subst hg
    have hadd : (⟨g', 0, none⟩ : Addr).add j = ⟨g', j, none⟩ := by unfold Addr.add; split <;> simp_all
    rw [hadd, cell_of_row w g' j cur e fz hgg]
    rw [← htake, List.getElem?_take] at hu
    split at hu
    · simpa using hu
    · cases hu

/-- the value's make -/
theorem OwnR.form (h : OwnR w base e size v n xs) : (v = .slice none 0 0 ∧ n = 0) ∨ ∃ g cap, v = .slice (some ⟨g, 0, none⟩) n cap ∧ base ≤ g ∧ g < w.heap.size ∧ n ≤ cap := by
  rcases h.2 with hn | ⟨g, cap, cur, fz, rfl, hb, hg, _, hc, _⟩
  · exact .inl hn
  · exact .inr ⟨g, cap, rfl, hb, (Array.getElem?_eq_some_iff.1 hg).1, hc⟩

/-- cut to nothing: the row stays -/
theorem OwnR.cut {g cap : Nat} (h : OwnR w base e size (.slice (some ⟨g, 0, none⟩) n cap) n xs) : OwnR w base e size (.slice (some ⟨g, 0, none⟩) 0 cap) 0 [] := by
  refine ⟨by simp, ?_⟩
  rcases h.2 with ⟨hn, _⟩ | ⟨g', cap', cur, fz, hv, hb, hg, hf, hnc, hcm, hcs, ht⟩
  · simp at hn
  · simp only [Value.slice.injEq, Option.some.injEq, Addr.mk.injEq, and_true, true_and] at hv
    obtain ⟨rfl, rfl⟩ := hv
    exact .inr ⟨g, cap, cur, fz, rfl, hb, hg, hf, Nat.zero_le _, hcm, hcs, by simp⟩
end

theorem run_storeCells_B (P : Program) (g o : Nat) (t : TypeId) (fz : Nat × Nat) : ∀ (vs : List Value) (i : Nat) (cur : Array Value) (w : World), w.heap[g]? = some (.cells cur t fz) → cur.size ≤ fz.1 → o + i + vs.length ≤ cur.size → (∀ v ∈ vs, v.oneCell' = true) →
    (storeCells ⟨g, o, none⟩ vs i).run P w = .ok () (w.setRow g (cur.toList.take (o + i) ++ vs ++ cur.toList.drop (o + i + vs.length)).toArray)
  | [], i, cur, w, hg, _, _, _ => by
    simp only [storeCells, List.append_nil, List.length_nil, Nat.add_zero, List.take_append_drop, Array.toArray_toList]
    rw [setRow_self w g cur t fz hg]
    rfl
  | v :: rest, i, cur, w, hg, hfz, hl, h1 => by
    have hi : o + i < cur.size := by simp at hl; omega
    have hadd : (⟨g, o, none⟩ : Addr).add i = ⟨g, o + i, none⟩ := by unfold Addr.add; split <;> simp_all
    have hcell : w.cell? ⟨g, o + i, none⟩ = some cur[o + i] := by simp [World.cell?, hg, hi]
    have hfro : w.frozen? ⟨g, o + i, none⟩ = false := by
      obtain ⟨lo, hi'⟩ := fz
      simp only [World.frozen?, hg, Bool.and_eq_false_iff, decide_eq_false_iff_not]
      left
      simp only at hfz
      omega
    have hst : (store ((⟨g, o, none⟩ : Addr).add i) v).run P w = .ok () (w.setRow g (cur.setIfInBounds (o + i) v)) := by
      rw [hadd, run_store P w _ v _ (h1 v (by simp)), hcell]
      simp [hfro, setCell_eq_setRow w g (o + i) cur t fz v hg]
    have ih := run_storeCells_B P g o t fz rest (i + 1) (cur.setIfInBounds (o + i) v) (w.setRow g (cur.setIfInBounds (o + i) v)) (setRow_heap w g cur _ t _ hg) (by simpa using hfz) (by simp at hl ⊢; omega) (fun x hx => h1 x (by simp [hx]))
    simp only [storeCells, Sem.run_bind, hst, Result.andThen_ok, ih, setRow_setRow]
    congr 3
    have e := list_seg_step cur.toList (o + i) v rest (by simp at hl ⊢; omega)
    simpa [Array.toList_setIfInBounds, Nat.add_assoc] using e

section
variable {P : Program} (w : World)

theorem run_append_R (t ty : TypeId) (base : Nat) (e : TypeId) (i : TypeInfo) (z : Value) (size bytes : Nat) (ht : P.underlying t = some (.slice e)) (hi : P.info? e = some i) (hz : i.zero = some z)
    (hsize : i.size = size) (hby : i.bytes = bytes) (hzs : z.cells.size = size) (hsz : 0 < size)
    (v : Value) (n : Nat) (xs : List Value) (hown : OwnR w base e size v n xs)
    (ad : Addr) (m c : Nat) (news : List Value) (hl : news.length = m * size) (hnews : ∀ j u, news[j]? = some u → w.cell? (ad.add j) = some u) (h1 : ∀ u ∈ news, u.oneCell' = true)
    (hm : 0 < m) (h63 : n + m ≤ maxLen) (hbytes : (n + m) * bytes ≤ 140737488355328) (hbase : base ≤ w.heap.size) (H : Nat) (hH : w.heap.size = H) :
    ∃ g cap w', (Builtin.append_ #[t, t] ty #[v, .slice (some ad) m c]).run P w = .ok (.slice (some ⟨g, 0, none⟩) (n + m) cap) w' ∧
      OwnR w' base e size (.slice (some ⟨g, 0, none⟩) (n + m) cap) (n + m) (xs ++ news) ∧ w.grownBy w' v.ownBlock ∧ (v.ownBlock = some g ∨ g = H) ∧ g < w'.heap.size := by
  have plain : w.ownsRow base e size v n xs → _ := fun ho => run_append_lies (P := P) w t ty base e i z size bytes ht hi hz hsize hby hzs hsz v n xs ho ad m c news hl hnews h1 hm h63 hbytes hbase H hH
  rcases hown.2 with hn | ⟨g, cap, cur, fz, rfl, hbg, hg, hfz, hnc, hcm, hcs, htake⟩
  · obtain ⟨g, cap, w', a1, a2, a3, a4, a5⟩ := plain ⟨hown.1, .inl hn⟩
    exact ⟨g, cap, w', a1, OwnR.of a2, a3, a4, a5⟩
  rcases hfz with rfl | hfz
  · obtain ⟨g, cap, w', a1, a2, a3, a4, a5⟩ := plain ⟨hown.1, .inr ⟨g, cap, cur, rfl, hbg, hg, hnc, hcm, hcs, htake⟩⟩
    exact ⟨g, cap, w', a1, OwnR.of a2, a3, a4, a5⟩
  subst hsize
  have hsmall : n + m ≤ 9223372036854775807 := by simp only [maxLen] at h63; omega
  have hlen : (xs ++ news).length = (n + m) * i.size := by rw [List.length_append, hown.1, hl, Nat.add_mul]
  by_cases hroom : n + m ≤ cap
  · have hfit : n * i.size + news.length ≤ cur.size := by
      rw [hcs, hl, ← Nat.add_mul]
      exact Nat.mul_le_mul_right _ hroom
    have hf := run_firstCells_some (P := P) w i.size m ad m c news hl hnews
    have hst := run_storeCells_B P g (n * i.size) e fz news 0 cur w hg hfz (by simpa using hfit) h1
    simp only [Nat.add_zero] at hst
    have hr : (Builtin.append_ #[t, t] ty #[.slice (some ⟨g, 0, none⟩) n cap, .slice (some ad) m c]).run P w =
        .ok (.slice (some ⟨g, 0, none⟩) (n + m) cap) (w.setRow g (cur.toList.take (n * i.size) ++ news ++ cur.toList.drop (n * i.size + news.length)).toArray) := by
      simp [Builtin.append_, run_underlying ht, sizeOf, typeInfo, hi, Builtin.lenOf, hroom, hf, Addr.add_lit, hst]
    have hsz2 : (cur.toList.take (n * i.size) ++ news ++ cur.toList.drop (n * i.size + news.length)).toArray.size = cur.size := by
      simp only [List.size_toArray, List.length_append, List.length_take, List.length_drop, Array.length_toList]
      omega
    refine ⟨g, cap, _, hr, ⟨hlen, .inr ⟨g, cap, _, fz, rfl, hbg, setRow_heap w g cur _ e _ hg, .inr (by rw [hsz2]; exact hfz), hroom, hcm, by rw [hsz2]; exact hcs, ?_⟩⟩, ⟨rfl, rfl, rfl, by simp, fun k _ hk => setRow_other w g k _ (fun e => hk (by simp [Value.ownBlock, e]))⟩, .inl rfl, ?_⟩
    · rw [htake, ← hlen]
      exact List.take_left
    · have := (Array.getElem?_eq_some_iff.1 hg).1
      simpa using this
  · have holds : ∀ j u, xs[j]? = some u → w.cell? ((⟨g, 0, none⟩ : Addr).add j) = some u := hown.cells (g := g) rfl
    have hr := run_append_grow (P := P) w t ty e i z ht hi hz ⟨g, 0, none⟩ n cap xs hown.1 holds ad m c news hl hnews (by omega) (by omega) (by rw [hby]; exact growslice_fits (by omega) (by omega))
    have hge := grownCap_ge w (n + m) cap e
    have hcm2 : grownCap w (n + m) cap e ≤ maxLen := grownCap_le_maxLen w (n + m) cap e h63
    refine ⟨w.heap.size, _, _, hr, ⟨hlen, .inr ⟨w.heap.size, _, _, (0, 0), rfl, hbase, heap_alloc_new w.drew _, .inl rfl, hge, hcm2, ?_, ?_⟩⟩, ⟨rfl, rfl, rfl, by simp, fun k hk hne => (World.grownBy_alloc w.drew _ _).block k hk hne⟩, .inr hH, by simp⟩
    · simp only [Array.size_append, List.size_toArray, size_zeroCells, hown.1, hl, hzs]
      rw [← Nat.add_mul, ← Nat.add_mul]
      congr 1
      omega
    · simp only [Array.toList_append, List.append_assoc]
      rw [← List.append_assoc, ← hlen]
      exact List.take_left

theorem wp_append_R {o : Oper} {a : Act} {K : Act → World → Prop} {Q : Exit → Act → World → Prop} (s x : Operand) (t : TypeId)
    (ho : o.op = .call { callee := .builtin .append, args := #[s, x], argTypes := #[t, t] })
    (base : Nat) (e : TypeId) (i : TypeInfo) (z : Value) (size bytes : Nat) (ht : P.underlying t = some (.slice e)) (hi : P.info? e = some i) (hz : i.zero = some z)
    (hsize : i.size = size) (hby : i.bytes = bytes) (hzs : z.cells.size = size) (hsz : 0 < size)
    (v : Value) (n : Nat) (xs : List Value) (hs : a.eval s = v) (hown : OwnR w base e size v n xs)
    (ad : Addr) (m c : Nat) (news : List Value) (hx : a.eval x = .slice (some ad) m c) (hl : news.length = m * size) (hnews : ∀ j u, news[j]? = some u → w.cell? (ad.add j) = some u) (h1 : ∀ u ∈ news, u.oneCell' = true)
    (hm : 0 < m) (h63 : n + m ≤ maxLen) (hbytes : (n + m) * bytes ≤ 140737488355328) (hbase : base ≤ w.heap.size) (H : Nat) (hH : w.heap.size = H)
    (h : ∀ g cap w', OwnR w' base e size (.slice (some ⟨g, 0, none⟩) (n + m) cap) (n + m) (xs ++ news) → w.grownBy w' v.ownBlock → (v.ownBlock = some g ∨ g = H) → g < w'.heap.size → K (a.put o.dst (.slice (some ⟨g, 0, none⟩) (n + m) cap)) w') : o.wp P a w K Q := by
  obtain ⟨g, cap, w', hr, h2, h3, h4, h5⟩ := run_append_R (P := P) w t o.type base e i z size bytes ht hi hz hsize hby hzs hsz v n xs hown ad m c news hl hnews h1 hm h63 hbytes hbase H hH
  unfold Oper.wp execOp
  simp only [ho, resolve, invoke, builtin, Sem.run_bind, Sem.run_pure, Result.andThen_ok, List.map_toArray, List.map_cons, List.map_nil, hs, hx, hr]
  exact h g cap w' h2 h3 h4 h5

theorem wpList_append_R {ops : Array Oper} {rest : List Oper} {o : Oper} {a : Act} {Q : Exit → Act → World → Prop} (hgd : o.guard = none) (s x : Operand) (t : TypeId)
    (ho : o.op = .call { callee := .builtin .append, args := #[s, x], argTypes := #[t, t] })
    (base : Nat) (e : TypeId) (i : TypeInfo) (z : Value) (size bytes : Nat) (ht : P.underlying t = some (.slice e)) (hi : P.info? e = some i) (hz : i.zero = some z)
    (hsize : i.size = size) (hby : i.bytes = bytes) (hzs : z.cells.size = size) (hsz : 0 < size)
    (v : Value) (n : Nat) (xs : List Value) (hs : a.eval s = v) (hown : OwnR w base e size v n xs)
    (ad : Addr) (m c : Nat) (news : List Value) (hx : a.eval x = .slice (some ad) m c) (hl : news.length = m * size) (hnews : ∀ j u, news[j]? = some u → w.cell? (ad.add j) = some u) (h1 : ∀ u ∈ news, u.oneCell' = true)
    (hm : 0 < m) (h63 : n + m ≤ maxLen) (hbytes : (n + m) * bytes ≤ 140737488355328) (hbase : base ≤ w.heap.size) (H : Nat) (hH : w.heap.size = H)
    (h : ∀ g cap w', OwnR w' base e size (.slice (some ⟨g, 0, none⟩) (n + m) cap) (n + m) (xs ++ news) → w.grownBy w' v.ownBlock → (v.ownBlock = some g ∨ g = H) → g < w'.heap.size → wpList P ops Q rest (a.put o.dst (.slice (some ⟨g, 0, none⟩) (n + m) cap)) w') : wpList P ops Q (o :: rest) a w :=
  wpList_plain hgd fun _ hK => wp_append_R w s x t ho base e i z size bytes ht hi hz hsize hby hzs hsz v n xs hs hown ad m c news hx hl hnews h1 hm h63 hbytes hbase H hH fun g cap w' h2 h3 h4 h5 => hK _ _ (h g cap w' h2 h3 h4 h5)

theorem step_append_R {ops : Array Oper} {o : Oper} {a : Act} {K : Act → World → Prop} {Q : Exit → Act → World → Prop} {E : Prop} (hgd : o.guard = none) (s x : Operand) (t : TypeId)
    (ho : o.op = .call { callee := .builtin .append, args := #[s, x], argTypes := #[t, t] })
    (base : Nat) (e : TypeId) (i : TypeInfo) (z : Value) (size bytes : Nat) (ht : P.underlying t = some (.slice e)) (hi : P.info? e = some i) (hz : i.zero = some z)
    (hsize : i.size = size) (hby : i.bytes = bytes) (hzs : z.cells.size = size) (hsz : 0 < size)
    (v : Value) (n : Nat) (xs : List Value) (hs : a.eval s = v) (hown : OwnR w base e size v n xs)
    (ad : Addr) (m c : Nat) (news : List Value) (hx : a.eval x = .slice (some ad) m c) (hl : news.length = m * size) (hnews : ∀ j u, news[j]? = some u → w.cell? (ad.add j) = some u) (h1 : ∀ u ∈ news, u.oneCell' = true)
    (hm : 0 < m) (h63 : n + m ≤ maxLen) (hbytes : (n + m) * bytes ≤ 140737488355328) (hbase : base ≤ w.heap.size) (H : Nat) (hH : w.heap.size = H)
    (h : ∀ g cap w', OwnR w' base e size (.slice (some ⟨g, 0, none⟩) (n + m) cap) (n + m) (xs ++ news) → w.grownBy w' v.ownBlock → (v.ownBlock = some g ∨ g = H) → g < w'.heap.size → K (a.put o.dst (.slice (some ⟨g, 0, none⟩) (n + m) cap)) w') :
    if Region.wanted o (yielded ops a.tmps) = true then Oper.wp P o a w K Q else E := by
  have hw : Region.wanted o (yielded ops a.tmps) = true := by simp [Region.wanted, hgd]
  rw [if_pos hw]
  exact wp_append_R w s x t ho base e i z size bytes ht hi hz hsize hby hzs hsz v n xs hs hown ad m c news hx hl hnews h1 hm h63 hbytes hbase H hH h
end
end Go.Proofs.YtneiiinheimglaaGreatDoor
namespace Go.Proofs.YtneiiinheimglaaGreatDoor.W
open Go.RowKit Go.Lib Go.Proofs.YtneiiinheimglaaGreatDoor

theorem Hid.mk' {p : Prop} (h : p) : Hid p := h
theorem below_drewN {B : Nat} {a w : World} (h : Below B a w) (n : Nat) : Below B a (w.drewN n) := ⟨h.os, h.tape, h.output, h.size, h.block⟩
def bcells (l : List UInt8) : List Value := l.map fun b => .int .u8 (b.toNat : Int)
theorem bcells_length (l : List UInt8) : (bcells l).length = l.length := by simp [bcells]
theorem bcells_one (l : List UInt8) : ∀ u ∈ bcells l, u.oneCell' = true := by
  intro u hu
  obtain ⟨c, _, rfl⟩ := List.mem_map.1 hu
  rfl
theorem bcells_app (a b : List UInt8) : bcells (a ++ b) = bcells a ++ bcells b := by simp [bcells]
theorem infoByte : (Tryz.prog.info? 5).map (fun i => (i.zero, i.size, i.bytes)) = some (some (.int .u8 0), 1, 1) := by kernel_rfl
theorem info_parts {P : Program} {t : TypeId} {z : Option Value} {s b : Nat} (h : (P.info? t).map (fun i => (i.zero, i.size, i.bytes)) = some (z, s, b)) : ∃ i, P.info? t = some i ∧ i.zero = z ∧ i.size = s ∧ i.bytes = b := by
  cases hi : P.info? t with
  | none => rw [hi] at h; simp at h
  | some i =>
    rw [hi] at h
    simp only [Option.map_some, Option.some.injEq, Prod.mk.injEq] at h
    exact ⟨i, rfl, h.1, h.2.1, h.2.2⟩
/-- bytes that the call owns from a block on -/
def OwnB (w : World) (base : Nat) (v : Value) (l : List UInt8) : Prop := OwnR w base 5 1 v l.length (bcells l)
theorem OwnB.nil (w : World) (base : Nat) : OwnB w base (.slice none 0 0) [] := OwnR.nil _ _ _ _
theorem keptBy {w w' : World} {base : Nat} {e : TypeId} {size : Nat} {v : Value} {n : Nat} {xs : List Value} (h : OwnR w base e size v n xs) (hb : Below w.heap.size w w') : OwnR w' base e size v n xs :=
  h.keptAt fun k hk => hb.block k (h.lt k hk).2
theorem OwnB.below {w w' : World} {base : Nat} {v : Value} {l : List UInt8} (h : OwnB w base v l) (hb : Below w.heap.size w w') : OwnB w' base v l := keptBy h hb
theorem bytes_append (a b : List UInt8) : (⟨a.toArray⟩ ++ ⟨b.toArray⟩ : ByteArray) = ⟨(a ++ b).toArray⟩ := by
  apply ByteArray.ext
  simp
theorem size_mk (l : List UInt8) : (⟨l.toArray⟩ : ByteArray).size = l.length := by simp [ByteArray.size]
theorem get_mk (l : List UInt8) : ∀ k (h : k < l.length) (h2 : k < (⟨l.toArray⟩ : ByteArray).size), (⟨l.toArray⟩ : ByteArray)[k]'h2 = l[k]'h := fun _ _ _ => rfl

theorem fold_push (l : List UInt8) : ∀ s : ByteArray, ((l.map fun b => ((b.toNat : Nat) : Int)).foldl (fun r n => r.push (UInt8.ofNat n.toNat)) s) = ⟨(s.data.toList ++ l).toArray⟩ := by
  induction l with
  | nil => intro s; simp
  | cons a l ih =>
    intro s
    rw [List.map_cons, List.foldl_cons, ih]
    congr 1
    simp [ByteArray.push]



/-- a literal of bytes -/
theorem OwnB.lit (w : World) (l : List UInt8) (hl : l.length ≤ 1000000) : OwnB (w.alloc (.cells (bcells l).toArray 5)) w.heap.size (.slice (some ⟨w.heap.size, 0, none⟩) l.length l.length) l :=
  ⟨by simp [bcells], .inr ⟨w.heap.size, l.length, _, (0, 0), rfl, Nat.le_refl _, (MapKept.heap_alloc w _).1, .inl rfl, Nat.le_refl _, by unfold maxLen; omega, by simp [bcells], by simp [bcells, List.take_of_length_le]⟩⟩
end Go.Proofs.YtneiiinheimglaaGreatDoor.W
namespace Go.Proofs.YtneiiinheimglaaGreatDoor.Q
open Go.RowKit

/-- block b holds the cells l -/
def Box (w : World) (b : Nat) (t : TypeId) (l : List Value) : Prop := w.heap[b]? = some (.cells l.toArray t (0, 0))

section
variable {w w' : World} {b : Nat} {t : TypeId} {l : List Value}
theorem Box.new (w : World) (t : TypeId) (l : List Value) : Box (w.alloc (.cells l.toArray t)) w.heap.size t l := heap_alloc_last w _
theorem Box.lt (h : Box w b t l) : b < w.heap.size := (Array.getElem?_eq_some_iff.1 h).1
theorem Box.alloc (h : Box w b t l) (o : Obj) : Box (w.alloc o) b t l := by
  unfold Box
  rw [Below.heap_alloc _ _ _ h.lt]
  exact h
theorem Box.kept (h : Box w b t l) (hk : w'.heap[b]? = w.heap[b]?) : Box w' b t l := by unfold Box; rw [hk]; exact h
theorem Box.below (h : Box w b t l) {B : Nat} (hb : Below B w w') (hB : b < B) : Box w' b t l := h.kept (hb.block b hB)
theorem Box.later (h : Box w b t l) (hb : Below w.heap.size w w') : Box w' b t l := h.below hb h.lt
theorem Box.drew (h : Box w b t l) : Box w.drew b t l := h
theorem Box.cell (h : Box w b t l) {j : Nat} {v : Value} (hj : l[j]? = some v) : w.cell? ⟨b, j, none⟩ = some v := by
  rw [cell_of_row w b j _ t _ h]
  simpa using hj
theorem Box.frozen (h : Box w b t l) (j : Nat) : w.frozen? ⟨b, j, none⟩ = false := frozen_of_row w b j _ t h
theorem Box.range (h : Box w b t l) (o n : Nat) : w.rangeAt b o ((l.drop o).take n) := fun j v hv => by
  refine h.cell ?_
  rw [List.getElem?_take, List.getElem?_drop] at hv
  split at hv
  · exact hv
  · cases hv
theorem Box.range0 (h : Box w b t l) : w.rangeAt b 0 l := fun j v hv => by
  rw [Nat.zero_add]
  exact h.cell hv
theorem Box.there (h : Box w b t l) {o n : Nat} (hn : o + n ≤ l.length) : w.there b o n := fun j hj =>
  ⟨by rw [h.cell (List.getElem?_eq_getElem (show o + j < l.length by omega))]; rfl, h.frozen _⟩
theorem Box.setCell (h : Box w b t l) (j : Nat) (v : Value) : Box (w.setCell ⟨b, j, none⟩ v) b t (l.set j v) := by
  unfold Box
  rw [heap_setCell_same w b j _ t v h]
  simp
theorem setCell_other (w : World) (b j : Nat) (v : Value) {k : Nat} (hk : k ≠ b) : (w.setCell ⟨b, j, none⟩ v).heap[k]? = w.heap[k]? := heap_setCell_other w ⟨b, j, none⟩ k v hk
end

/-- cells laid over others -/
def lay : List Value → Nat → List Value → List Value
  | l, _, [] => l
  | l, o, v :: r => lay (l.set o v) (o + 1) r
theorem lay_length (cs : List Value) : ∀ (l : List Value) (o : Nat), (lay l o cs).length = l.length := by
  induction cs with
  | nil => intro l o; rfl
  | cons v r ih => intro l o; rw [lay, ih]; simp
theorem lay_out (cs : List Value) : ∀ (l : List Value) (o j : Nat), (j < o ∨ o + cs.length ≤ j) → (lay l o cs)[j]? = l[j]? := by
  induction cs with
  | nil => intro l o j _; rfl
  | cons v r ih =>
    intro l o j h
    simp only [List.length_cons] at h
    rw [lay, ih _ _ _ (by omega), List.getElem?_set_ne (by omega)]
theorem lay_in (cs : List Value) : ∀ (l : List Value) (o j : Nat), o + cs.length ≤ l.length → o ≤ j → j < o + cs.length → (lay l o cs)[j]? = cs[j - o]? := by
  induction cs with
  | nil => intro l o j _ h1 h2; simp at h2; omega
  | cons v r ih =>
    intro l o j h h1 h2
    simp only [List.length_cons] at h h2
    rw [lay]
    by_cases e : j = o
    · subst e
      rw [lay_out _ _ _ _ (by omega), List.getElem?_set_self (by omega)]
      simp
    · rw [ih _ _ _ (by simp; omega) (by omega) (by omega), show j - o = (j - (o + 1)) + 1 by omega, List.getElem?_cons_succ]
theorem lay_whole (l cs : List Value) (h : l.length = cs.length) : lay l 0 cs = cs := by
  apply List.ext_getElem?
  intro j
  by_cases hj : j < cs.length
  · rw [lay_in _ _ _ _ (by omega) (by omega) (by omega)]; simp
  · rw [List.getElem?_eq_none (by rw [lay_length]; omega), List.getElem?_eq_none (by omega)]

theorem setCells_box : ∀ (cs l : List Value) (o : Nat) (w : World) (b : Nat) (t : TypeId), Box w b t l → Box (w.setCells b o cs) b t (lay l o cs)
  | [], _, _, _, _, _, h => h
  | v :: r, l, o, w, b, t, h => by
    rw [World.setCells, lay]
    exact setCells_box r _ _ _ _ _ (h.setCell o v)
theorem setCells_other : ∀ (cs : List Value) (o : Nat) (w : World) (b k : Nat), k ≠ b → (w.setCells b o cs).heap[k]? = w.heap[k]?
  | [], _, _, _, _, _ => rfl
  | v :: r, o, w, b, k, h => by
    rw [World.setCells, setCells_other r _ _ _ _ h]
    exact setCell_other w b o v h
theorem setCells_size : ∀ (cs : List Value) (o : Nat) (w : World) (b : Nat), (w.setCells b o cs).heap.size = w.heap.size
  | [], _, _, _ => rfl
  | v :: r, o, w, b => by
    rw [World.setCells, setCells_size r]
    simp [World.setCell]
theorem setCells_below : ∀ (cs : List Value) (o : Nat) (w W : World) (b B : Nat), Below B W w → B ≤ b → Below B W (w.setCells b o cs)
  | [], _, _, _, _, _, h, _ => h
  | v :: r, o, w, W, b, B, h, hB => by
    rw [World.setCells]
    exact setCells_below r _ _ _ _ _ (h.setCell (p := ⟨b, o, none⟩) hB v) hB

/-- what a store leaves: its block, the others as they were -/
structure Stored (w w' : World) (b : Nat) (t : TypeId) (l : List Value) : Prop where
  box : Box w' b t l
  other : ∀ k, k ≠ b → w'.heap[k]? = w.heap[k]?
  size : w'.heap.size = w.heap.size
  below : ∀ B W, B ≤ b → Below B W w → Below B W w'
theorem Stored.keep {w w' : World} {b : Nat} {t : TypeId} {l : List Value} (h : Stored w w' b t l) {b' : Nat} {t' : TypeId} {l' : List Value} (hB : Box w b' t' l') (hne : b' ≠ b) : Box w' b' t' l' := hB.kept (h.other _ hne)
theorem Stored.cells {w : World} {b : Nat} {t : TypeId} {l : List Value} (h : Box w b t l) (o : Nat) (cs : List Value) : Stored w (w.setCells b o cs) b t (lay l o cs) :=
  ⟨setCells_box _ _ _ _ _ _ h, fun _ hk => setCells_other _ _ _ _ _ hk, setCells_size _ _ _ _, fun _ _ hB h => setCells_below _ _ _ _ _ _ h hB⟩
theorem Stored.cell {w : World} {b : Nat} {t : TypeId} {l : List Value} (h : Box w b t l) (j : Nat) (v : Value) : Stored w (w.setCell ⟨b, j, none⟩ v) b t (l.set j v) :=
  ⟨h.setCell j v, fun _ hk => setCell_other _ _ _ _ hk, by simp [World.setCell], fun _ _ hB h => h.setCell (p := ⟨b, j, none⟩) hB v⟩

/-- what a new block leaves -/
structure Made (w w' : World) (t : TypeId) (l : List Value) : Prop where
  box : Box w' w.heap.size t l
  other : ∀ k, k < w.heap.size → w'.heap[k]? = w.heap[k]?
  size : w'.heap.size = w.heap.size + 1
  below : ∀ B W, B ≤ w.heap.size → Below B W w → Below B W w'
theorem Made.keep {w w' : World} {t : TypeId} {l : List Value} (h : Made w w' t l) {b' : Nat} {t' : TypeId} {l' : List Value} (hB : Box w b' t' l') : Box w' b' t' l' := hB.kept (h.other _ hB.lt)
theorem Made.lt {w w' : World} {t : TypeId} {l : List Value} (h : Made w w' t l) : w.heap.size < w'.heap.size := by rw [h.size]; omega
theorem Made.alloc (w : World) (t : TypeId) (l : List Value) : Made w (w.alloc (.cells l.toArray t)) t l :=
  ⟨Box.new w t l, fun _ hk => Below.heap_alloc _ _ _ hk, World.size_alloc _ _, fun _ _ hB h => h.alloc hB _⟩

section
variable {P : Program} {ops : Array Oper} {rest : List Oper} {op : Oper} {a : Act} {w : World} {Q : Exit → Act → World → Prop}
/-- a value is put into a block of its own -/
theorem wpList_box (l : List Value) (ty : TypeId) (hgd : op.guard = none) (x : Operand) (ho : op.op = .box ty x) (hx : a.eval x = .agg l.toArray)
    (h : ∀ w', Made w w' ty l → wpList P ops Q rest (a.put op.dst (.pointer (some ⟨w.heap.size, 0, none⟩))) w') : wpList P ops Q (op :: rest) a w :=
  wpList_plain hgd fun _ hK => by
    unfold Oper.wp execOp
    simp only [ho, hx, Instr.box, newVar, newRow, Value.cells, Sem.run_bind, Sem.run_pure, Result.andThen_ok, run_newObj_alloc]
    exact hK _ _ (h _ (Made.alloc w ty l))
/-- a new variable -/
theorem wpList_alloc (z : List Value) (ty : TypeId) (hz : ∀ w, (zeroValue ty).run P w = .ok (.agg z.toArray) w) (hgd : op.guard = none) (ho : op.op = .alloc ty)
    (h : ∀ w', Made w w' ty z → wpList P ops Q rest (a.put op.dst (.pointer (some ⟨w.heap.size, 0, none⟩))) w') : wpList P ops Q (op :: rest) a w :=
  wpList_plain hgd fun _ hK => by
    unfold Oper.wp execOp
    simp only [ho, Instr.alloc, hz, newVar, newRow, Value.cells, Sem.run_bind, Sem.run_pure, Result.andThen_ok, run_newObj_alloc]
    exact hK _ _ (h _ (Made.alloc w ty z))
/-- a block is read whole -/
theorem wpList_load_box (ty : TypeId) (t : TypeId) (l : List Value) (b : Nat) (d : TypeDesc) (hu : P.underlying ty = some d) (hd : d.isRow = true) (hi : (P.info? ty).map (·.size) = some l.length) (hB : Box w b t l)
    (hgd : op.guard = none) (x : Operand) (ho : op.op = .load ty x) (hx : a.eval x = .pointer (some ⟨b, 0, none⟩))
    (h : wpList P ops Q rest (a.put op.dst (.agg l.toArray)) w) : wpList P ops Q (op :: rest) a w :=
  wpList_load_mid hgd ty x ho b 0 hx l d hB.range0 hu hd hi h
/-- a part of a block is read -/
theorem wpList_load_part (ty : TypeId) (t : TypeId) (l : List Value) (b o n : Nat) (d : TypeDesc) (hu : P.underlying ty = some d) (hd : d.isRow = true) (hi : (P.info? ty).map (·.size) = some n) (hB : Box w b t l) (hn : o + n ≤ l.length)
    (hgd : op.guard = none) (x : Operand) (ho : op.op = .load ty x) (hx : a.eval x = .pointer (some ⟨b, o, none⟩))
    (h : wpList P ops Q rest (a.put op.dst (.agg ((l.drop o).take n).toArray)) w) : wpList P ops Q (op :: rest) a w :=
  wpList_load_mid hgd ty x ho b o hx _ d (hB.range o n) hu hd (by rw [hi, List.length_take, List.length_drop]; congr 1; omega) h
/-- a block is written whole -/
theorem wpList_store_box (ty : TypeId) (t : TypeId) (l cs : List Value) (b : Nat) (hi : (P.info? ty).map (·.size) = some cs.length) (h1 : ∀ v ∈ cs, v.oneCell' = true) (hB : Box w b t l) (hl : l.length = cs.length)
    (hgd : op.guard = none) (x y : Operand) (ho : op.op = .store ty x y) (hx : a.eval x = .pointer (some ⟨b, 0, none⟩)) (hy : a.eval y = .agg cs.toArray)
    (h : ∀ w', Stored w w' b t cs → wpList P ops Q rest (a.put op.dst undef) w') : wpList P ops Q (op :: rest) a w :=
  wpList_store_mid hgd ty x y ho b 0 cs.toArray hx hy (hB.there (by simp; omega)) (by simpa using hi) (all_oneCell_toArray h1) (h _ (by
    have := Stored.cells hB 0 cs
    rwa [lay_whole _ _ hl] at this))
/-- a part of a block is written -/
theorem wpList_store_part (ty : TypeId) (t : TypeId) (l cs : List Value) (b o : Nat) (hi : (P.info? ty).map (·.size) = some cs.length) (h1 : ∀ v ∈ cs, v.oneCell' = true) (hB : Box w b t l) (hl : o + cs.length ≤ l.length)
    (hgd : op.guard = none) (x y : Operand) (ho : op.op = .store ty x y) (hx : a.eval x = .pointer (some ⟨b, o, none⟩)) (hy : a.eval y = .agg cs.toArray)
    (h : ∀ w', Stored w w' b t (lay l o cs) → wpList P ops Q rest (a.put op.dst undef) w') : wpList P ops Q (op :: rest) a w :=
  wpList_store_mid hgd ty x y ho b o cs.toArray hx hy (hB.there (by simpa using hl)) (by simpa using hi) (all_oneCell_toArray h1) (h _ (Stored.cells hB o cs))
end

section
variable {P : Program}
theorem loadVar_box (w : World) (ty t : TypeId) (l : List Value) (b : Nat) (d : TypeDesc) (hu : P.underlying ty = some d) (hd : d.isRow = true) (hi : (P.info? ty).map (·.size) = some l.length) (hB : Box w b t l) :
    (loadVar ty ⟨b, 0, none⟩).run P w = .ok (.agg l.toArray) w := run_loadVar_mid w b 0 ty l d hB.range0 hu hd hi
/-- a result that lies in a block -/
theorem ret_box {fn : Func} {R : Ending → World → Prop} {p : Tmp} {ty : TypeId} (h : fn.results = #[.cell p ty]) {a : Act} {w : World} (t : TypeId) (l : List Value) (b : Nat) (d : TypeDesc) (hu : P.underlying ty = some d) (hd : d.isRow = true) (hi : (P.info? ty).map (·.size) = some l.length)
    (hp : a.tmps[p]? = some (.pointer (some ⟨b, 0, none⟩))) (hB : Box w b t l) (h0 : a.defers = []) (hR : R (.returned (.agg l.toArray)) w) : bodyPost P fn R .ret a w := by
  refine bodyPost_ret (v := .agg l.toArray) ?_ h0 hR
  simp [results, h, hp, asAddr, loadVar_box w ty t l b d hu hd hi hB]
/-- .. and two more -/
theorem ret_box3 {fn : Func} {R : Ending → World → Prop} {p p1 p2 : Tmp} {ty : TypeId} (h : fn.results = #[.cell p ty, .tmp p1, .tmp p2]) {a : Act} {w : World} (t : TypeId) (l : List Value) (b : Nat) (d : TypeDesc) (hu : P.underlying ty = some d) (hd : d.isRow = true) (hi : (P.info? ty).map (·.size) = some l.length)
    (v1 v2 : Value) (hp : a.tmps[p]? = some (.pointer (some ⟨b, 0, none⟩))) (hp1 : a.tmps[p1]? = some v1) (hp2 : a.tmps[p2]? = some v2) (hB : Box w b t l) (h0 : a.defers = []) (hR : R (.returned (.tuple #[.agg l.toArray, v1, v2])) w) : bodyPost P fn R .ret a w := by
  refine bodyPost_ret (v := .tuple #[.agg l.toArray, v1, v2]) ?_ h0 hR
  simp [results, h, hp, hp1, hp2, asAddr, loadVar_box w ty t l b d hu hd hi hB]
end
end Go.Proofs.YtneiiinheimglaaGreatDoor.Q
namespace Go.Proofs.YtneiiinheimglaaGreatDoor.Q
open Go.RowKit

/-- n cells lie behind a pointer, and they are l -/
def Lies (w : World) (v : Value) (n : Nat) : Prop := ∃ b o, v = .pointer (some ⟨b, o, none⟩) ∧ ∀ j, j < n → (w.cell? ⟨b, o + j, none⟩).isSome = true ∧ w.frozen? ⟨b, o + j, none⟩ = false
/-- the cells behind a pointer -/
def rowAt (w : World) (v : Value) (n : Nat) : List Value :=
  match v with
  | .pointer (some ad) => (List.range n).map fun j => (w.cell? ⟨ad.block, ad.off + j, none⟩).getD undef
  | _ => []
/-- a value of n cells -/
def Holds (v : Value) (n : Nat) : Prop := ∃ l : List Value, v = .agg l.toArray ∧ l.length = n ∧ ∀ u ∈ l, u.oneCell' = true
/-- a row written behind a pointer -/
def putAt (w : World) (v u : Value) : World :=
  match v, u with
  | .pointer (some ad), .agg cs => w.setCells ad.block ad.off cs.toList
  | _, _ => w

theorem rowAt_length (w : World) (b o n : Nat) : (rowAt w (.pointer (some ⟨b, o, none⟩)) n).length = n := by simp [rowAt]
theorem rowAt_range (w : World) (b o n : Nat) (h : ∀ j, j < n → (w.cell? ⟨b, o + j, none⟩).isSome = true ∧ w.frozen? ⟨b, o + j, none⟩ = false) : w.rangeAt b o (rowAt w (.pointer (some ⟨b, o, none⟩)) n) := fun j v hv => by
  unfold rowAt at hv
  simp only [List.getElem?_map] at hv
  by_cases hj : j < n
  · rw [List.getElem?_range hj] at hv
    obtain ⟨u, hu⟩ := Option.isSome_iff_exists.1 (h j hj).1
    simp only [Option.map_some, hu, Option.getD_some, Option.some.injEq] at hv
    rw [hu, hv]
  · rw [List.getElem?_eq_none (by simp; omega)] at hv
    simp at hv

section
variable {P : Program}
theorem exec_load (ty : TypeId) (n : Nat) (d : TypeDesc) (hu : P.underlying ty = some d) (hd : d.isRow = true) (hi : (P.info? ty).map (·.size) = some n)
    (ρ : Operand → Value) (x : Operand) (dst : Option Tmp) (t : TypeId) (pos : String) (af : Array Edge) (g : Option (Nat × Bool)) (w : World) (h : Lies w (ρ x) n) :
    (execOp ρ { dst := dst, op := .load ty x, type := t, pos := pos, after := af, guard := g }).run P w = .ok (.value (.agg (rowAt w (ρ x) n).toArray)) w := by
  obtain ⟨b, o, e, hc⟩ := h
  unfold execOp
  simp only [e, Instr.loadAt, Instr.sureAddr, Sem.run_bind, Sem.run_pure, Result.andThen_ok]
  rw [run_loadVar_mid w b o ty (rowAt w (.pointer (some ⟨b, o, none⟩)) n) d (rowAt_range w b o n hc) hu hd (by rw [rowAt_length]; exact hi)]
  rfl
theorem exec_store (ty : TypeId) (n : Nat) (hi : (P.info? ty).map (·.size) = some n)
    (ρ : Operand → Value) (x y : Operand) (dst : Option Tmp) (t : TypeId) (pos : String) (af : Array Edge) (g : Option (Nat × Bool)) (w : World) (h : Lies w (ρ x) n) (hy : Holds (ρ y) n) :
    (execOp ρ { dst := dst, op := .store ty x y, type := t, pos := pos, after := af, guard := g }).run P w = .ok .skip (putAt w (ρ x) (ρ y)) := by
  obtain ⟨b, o, e, hc⟩ := h
  obtain ⟨l, e2, hl, h1⟩ := hy
  unfold execOp
  simp only [e, e2, putAt, Instr.storeAt, Instr.sureAddr, Sem.run_bind, Sem.run_pure, Result.andThen_ok]
  rw [run_storeVar_mid w b o ty l.toArray (by rw [List.size_toArray, hl]; exact hc) (by simpa [hl] using hi) (all_oneCell_toArray h1)]
  rfl
end

section
variable {w w' : World} {b : Nat} {t : TypeId} {l : List Value}
theorem Box.lies (h : Box w b t l) {o n : Nat} (hn : o + n ≤ l.length) : Lies w (.pointer (some ⟨b, o, none⟩)) n := ⟨b, o, rfl, h.there hn⟩
theorem Box.lies0 (h : Box w b t l) {n : Nat} (hn : l.length = n) : Lies w (.pointer (some ⟨b, 0, none⟩)) n := h.lies (by omega)
theorem Box.row (h : Box w b t l) {o n : Nat} (hn : o + n ≤ l.length) : rowAt w (.pointer (some ⟨b, o, none⟩)) n = (l.drop o).take n := by
  apply List.ext_getElem?
  intro j
  unfold rowAt
  simp only [List.getElem?_map]
  by_cases hj : j < n
  · have e := h.cell (List.getElem?_eq_getElem (show o + j < l.length by omega))
    rw [List.getElem?_range hj, List.getElem?_take, if_pos hj, List.getElem?_drop, List.getElem?_eq_getElem (show o + j < l.length by omega)]
    simp only [Option.map_some, e, Option.getD_some]
  · rw [List.getElem?_eq_none (by simp; omega), List.getElem?_eq_none (by simp; omega)]
    rfl
theorem Box.row0 (h : Box w b t l) {n : Nat} (hn : l.length = n) : rowAt w (.pointer (some ⟨b, 0, none⟩)) n = l := by
  rw [h.row (by omega), List.drop_zero, List.take_of_length_le (by omega)]
theorem Box.putAt (h : Box w b t l) (cs : List Value) (hn : l.length = cs.length) : Stored w (putAt w (.pointer (some ⟨b, 0, none⟩)) (.agg cs.toArray)) b t cs := by
  have := Stored.cells h 0 cs
  rw [lay_whole _ _ hn] at this
  exact this
end
end Go.Proofs.YtneiiinheimglaaGreatDoor.Q
