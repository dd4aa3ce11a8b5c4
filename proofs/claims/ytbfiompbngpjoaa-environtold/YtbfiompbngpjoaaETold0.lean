/-
  Plain laws of variables that are asked for by their names, and how a variable in a row of one's own is made other; no condition.
-/
import Derived.Test.YtbfiompbngpjoaaEIndex
import Derived.Test.YtbfiompbngpjoaaELives
import Derived.Test.YtbfiompbngpjoaaEOwnWalk
namespace Go.Proofs.Ytbfiompbngpjoaa.E
open Go.RowKit Go.Lib Go.Proofs.Ytbfiompbngpjoaa Go.Proofs.Ytbfiompbngpjoaa.W Go.Proofs.Ytbfiompbngpjoaa.Q Go.Proofs.Ytbfiompbngpjoaa.C

/-- a variable that is asked for by its name -/
def fix (x : Vr) : Vr := ⟨if x.name = [] then [120] else x.name, [], x.user, false⟩
def fixK (m : List Vr) (k : Nat) : List Vr := (m.take k).map fix ++ m.drop k
theorem fixK_len (m : List Vr) {k : Nat} (h : k ≤ m.length) : (fixK m k).length = m.length := by
  unfold fixK
  rw [List.length_append, List.length_map, List.length_take, List.length_drop]
  omega
theorem fixK_zero (m : List Vr) : fixK m 0 = m := by simp [fixK]
theorem fixK_all (m : List Vr) : fixK m m.length = m.map fix := by simp [fixK]
theorem fixK_at (m : List Vr) {k : Nat} (h : k < m.length) (h2 : k < (fixK m k).length) : (fixK m k)[k]'h2 = m[k] := by
  have e : (fixK m k)[k]? = m[k]? := by
    unfold fixK
    rw [List.getElem?_append_right (by rw [List.length_map, List.length_take]; omega), List.length_map, List.length_take, Nat.min_eq_left (Nat.le_of_lt h), Nat.sub_self, List.getElem?_drop, Nat.add_zero]
  rw [List.getElem?_eq_getElem h2, List.getElem?_eq_getElem h] at e
  exact Option.some.inj e
theorem fixK_succ (m : List Vr) {k : Nat} (h : k < m.length) : fixK m (k + 1) = (fixK m k).set k (fix m[k]) := by
  unfold fixK
  rw [List.set_append_right _ _ (by simp; omega), take_snocV h, List.map_append, List.append_assoc]
  congr 1
  rw [List.length_map, List.length_take, Nat.min_eq_left (Nat.le_of_lt h), Nat.sub_self]
  rw [List.drop_eq_getElem_cons h]
  rfl
theorem fix_name (x : Vr) : (fix x).name ≠ [] := by
  unfold fix
  simp only
  split
  · simp
  · assumption
theorem pick_map (l : List Vr) : ∀ m : List Vr, (∀ x ∈ m, x.name ≠ []) → pickT l m = m.map (firstOf l)
  | [], _ => rfl
  | x :: m, h => by
    rw [pickT, oneOf, if_neg (h x List.mem_cons_self), pick_map l m (fun y hy => h y (List.mem_cons_of_mem _ hy))]
    rfl
theorem chk_first {l m : List Vr} (h1 : chk l = 0) (h2 : chk m = 0) : chk (m.map (firstOf l)) = 0 := by
  obtain ⟨_, a1, a2⟩ := chk_zero h1
  obtain ⟨b0, b1, b2⟩ := chk_zero h2
  refine chk_ok (by rw [List.length_map]; exact b0) (fun x hx => ?_) (fun x hx => ?_)
  · obtain ⟨y, hy, rfl⟩ := List.mem_map.1 hx
    rcases firstOf_mem y l with h | h
    · exact a1 _ h
    · rw [h]; exact b1 y hy
  · obtain ⟨y, hy, rfl⟩ := List.mem_map.1 hx
    rcases firstOf_mem y l with h | h
    · exact a2 _ h
    · rw [h]; exact b2 y hy
/-- what is told, as long as all can be written -/
theorem told_answer {l m : List Vr} (h1 : chk l = 0) (h2 : chk (m.map fix) = 0) (h3 : (txt (m.map fix)).length ≤ 4000) :
    answerT l (1 :: txt (m.map fix)) = (0 :: txt (if m = [] then l else (m.map fix).map (firstOf l)), 0) ∧ chk (if m = [] then l else (m.map fix).map (firstOf l)) = 0 := by
  have hr : readT (txt (m.map fix)) = (m.map fix, 0) := readT_txt h2 (by omega)
  have hw : wantedT (txt (m.map fix)) = (m.map fix, 0) := by
    rw [wantedT_ok (by rw [hr]) (fun x hx => by
      rw [hr] at hx
      obtain ⟨y, _, rfl⟩ := List.mem_map.1 hx
      rfl), hr]
  have hc : chk (if m = [] then l else (m.map fix).map (firstOf l)) = 0 := by
    split
    · exact h1
    · exact chk_first h1 h2
  refine ⟨?_, hc⟩
  rw [answerT_one, hw]
  simp only [if_true]
  have ht : toldT l (m.map fix) = if m = [] then l else (m.map fix).map (firstOf l) := by
    unfold toldT
    by_cases hm : m = []
    · subst hm; rfl
    · rw [if_neg hm, if_neg (by simpa using hm), pick_map l _ (fun x hx => by
        obtain ⟨y, _, rfl⟩ := List.mem_map.1 hx
        exact fix_name y)]
  rw [ht]
  exact sayT_ok (writeT_ok hc)

theorem cset_same {w : World} {g o : Nat} {u v : Value} (h : w.cell? ⟨g, o, none⟩ = some u) : (w.setCell ⟨g, o, none⟩ v).cell? ⟨g, o, none⟩ = some v := World.cell?_setCell_same _ _ _ h
theorem cset_ne {w : World} {g o o' : Nat} {v : Value} (h : o ≠ o') : (w.setCell ⟨g, o, none⟩ v).cell? ⟨g, o', none⟩ = w.cell? ⟨g, o', none⟩ := World.cell?_setCell_other _ _ _ _ (fun e => h (congrArg Addr.off e))
theorem fix_read {w w' : World} {g k : Nat} {M : List Vr} (h : ∀ j (hj : j < M.length), Lie w g (0 + j * 4) M[j]) (x : Vr) (hx : Lie w' g (k * 4) x) (hout : ∀ o, (o < k * 4 ∨ k * 4 + 4 ≤ o) → w'.cell? ⟨g, o, none⟩ = w.cell? ⟨g, o, none⟩) :
    ∀ j (hj : j < (M.set k x).length), Lie w' g (0 + j * 4) (M.set k x)[j] := fun j hj => by
  rw [List.length_set] at hj
  by_cases e : j = k
  · subst e
    rw [Nat.zero_add, List.getElem_set_self]
    exact hx
  · rw [List.getElem_set_ne (by omega)]
    obtain ⟨h0, h1, h2, h3⟩ := h j hj
    exact ⟨(hout _ (by omega)).trans h0, (hout _ (by omega)).trans h1, (hout _ (by omega)).trans h2, (hout _ (by omega)).trans h3⟩
/-- the variable at k made other: its value empty, not set -/
theorem fix_set {w : World} {g k : Nat} {M : List Vr} (h : ∀ j (hj : j < M.length), Lie w g (0 + j * 4) M[j]) (hk : k < M.length) (x : Vr) (hx : x = ⟨M[k].name, [], M[k].user, false⟩) :
    ∀ j (hj : j < (M.set k x).length), Lie ((w.setCell ⟨g, k * 4 + 1, none⟩ (.string ⟨#[]⟩)).setCell ⟨g, k * 4 + 3, none⟩ (.bool false)) g (0 + j * 4) (M.set k x)[j] := by
  obtain ⟨h0, h1, h2, h3⟩ := h k hk
  rw [Nat.zero_add] at h0 h1 h2 h3
  subst hx
  refine fix_read h _ ⟨?_, ?_, ?_, ?_⟩ (fun o ho => ?_)
  · rw [cset_ne (by omega), cset_ne (by omega)]; exact h0
  · rw [cset_ne (by omega)]; exact cset_same h1
  · rw [cset_ne (by omega), cset_ne (by omega)]; exact h2
  · refine cset_same (u := .bool M[k].set) ?_
    rw [cset_ne (by omega)]; exact h3
  · rw [cset_ne (by omega), cset_ne (by omega)]
/-- and its name x -/
theorem fix_setx {w : World} {g k : Nat} {M : List Vr} (h : ∀ j (hj : j < M.length), Lie w g (0 + j * 4) M[j]) (hk : k < M.length) (x : Vr) (hx : x = ⟨[120], [], M[k].user, false⟩) :
    ∀ j (hj : j < (M.set k x).length), Lie (((w.setCell ⟨g, k * 4, none⟩ (.string ⟨#[120]⟩)).setCell ⟨g, k * 4 + 1, none⟩ (.string ⟨#[]⟩)).setCell ⟨g, k * 4 + 3, none⟩ (.bool false)) g (0 + j * 4) (M.set k x)[j] := by
  obtain ⟨h0, h1, h2, h3⟩ := h k hk
  rw [Nat.zero_add] at h0 h1 h2 h3
  subst hx
  refine fix_read h _ ⟨?_, ?_, ?_, ?_⟩ (fun o ho => ?_)
  · rw [cset_ne (by omega), cset_ne (by omega)]; exact cset_same h0
  · rw [cset_ne (by omega)]
    refine cset_same (u := .string (bs M[k].value)) ?_
    rw [cset_ne (by omega)]; exact h1
  · rw [cset_ne (by omega), cset_ne (by omega), cset_ne (by omega)]; exact h2
  · refine cset_same (u := .bool M[k].set) ?_
    rw [cset_ne (by omega), cset_ne (by omega)]; exact h3
  · rw [cset_ne (by omega), cset_ne (by omega), cset_ne (by omega)]
end Go.Proofs.Ytbfiompbngpjoaa.E
