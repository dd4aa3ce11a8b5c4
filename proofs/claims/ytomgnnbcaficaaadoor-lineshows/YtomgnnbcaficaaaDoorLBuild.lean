/-
  An editor at work is built: keys, set, line and mark of quoting put in their places; no condition but the lengths.
-/
import Derived.Test.YtomgnnbcaficaaaDoorLType
namespace Go.Proofs.YtomgnnbcaficaaaDoor.L
open Go.RowKit Go.Lib Go.Proofs.YtomgnnbcaficaaaDoor Go.Proofs.YtomgnnbcaficaaaDoor.W Go.Proofs.YtomgnnbcaficaaaDoor.Q

theorem lay_app : ∀ (cs a b c : List Value), b.length = cs.length → lay (a ++ (b ++ c)) a.length cs = a ++ (cs ++ c)
  | [], a, b, c, h => by
    have : b = [] := List.length_eq_zero_iff.1 (by simpa using h)
    subst this
    rfl
  | x :: cs, a, b, c, h => by
    cases b with
    | nil => simp at h
    | cons y b =>
      rw [lay]
      have e : (a ++ (y :: b ++ c)).set a.length x = (a ++ [x]) ++ (b ++ c) := by
        rw [List.set_append_right _ _ (Nat.le_refl _), Nat.sub_self]
        simp
      have ih := lay_app cs (a ++ [x]) b c (by simpa using h)
      rw [List.length_append, List.length_singleton] at ih
      rw [e, ih]
      simp
theorem fold_lay : ∀ (cs : List Value) (n off : Nat) (A : Array Value), ((cs.zipIdx n).foldl (fun B x => B.setIfInBounds (off + x.2) x.1) A) = (lay A.toList (off + n) cs).toArray
  | [], n, off, A => by simp [lay]
  | x :: cs, n, off, A => by
    rw [List.zipIdx_cons, List.foldl_cons, fold_lay cs (n + 1) off, lay]
    congr 2
    simp
theorem fill_one (place : Nat → Option (Nat × Nat)) (a b c cs : List Value) (i : Nat) (v : Value) (rest : List (Nat × Value)) (hp : place i = some (a.length, cs.length)) (hv : v.cells = cs.toArray) (hb : b.length = cs.length) :
    Instr.fill place (a ++ (b ++ c)).toArray ((i, v) :: rest) = Instr.fill place (a ++ (cs ++ c)).toArray rest := by
  have hz : v.cells.size = cs.length := by rw [hv]; simp
  have hle : ¬ (a.length + v.cells.size > (a ++ (b ++ c)).toArray.size) := by
    rw [hz]; simp only [List.size_toArray, List.length_append]; omega
  rw [Instr.fill, hp]
  simp only [hz, ne_eq, not_true_eq_false, decide_false, Bool.false_or, decide_eq_true_eq]
  rw [if_neg (by simp only [List.size_toArray, List.length_append]; omega)]
  congr 1
  rw [hv, ← Array.foldl_toList, Array.toList_zipIdx]
  have h := fold_lay cs 0 a.length (a ++ (b ++ c)).toArray
  rw [Nat.add_zero] at h
  have h2 := lay_app cs a b c hb
  simp only at h ⊢
  rw [h2] at h
  exact h
def noT : List Value := tcells K.noK H.noW (.slice none 0 0) false (.slice none 0 0) (.slice none 0 0)
theorem infoTy : (Tryd.prog.info? 64).map (fun i => (i.zero, i.size)) = some (some (.agg noT.toArray), 46) := by kernel_rfl
theorem zeroTy : ∀ w, (zeroValue 64).run Tryd.prog w = .ok (.agg noT.toArray) w := (K.zero_of infoTy).1
theorem sizeTy : (Tryd.prog.info? 64).map (·.size) = some 46 := (K.zero_of infoTy).2
theorem size_run {t : TypeId} {n : Nat} (h : (Tryd.prog.info? t).map (·.size) = some n) (w : World) : (sizeOf t).run Tryd.prog w = .ok n w := by
  obtain ⟨i, hi, hs⟩ := Option.map_eq_some_iff.1 h
  simp [sizeOf, typeInfo, hi, hs]
theorem sizeSl : (Tryd.prog.info? 48).map (·.size) = some 1 := by kernel_rfl
theorem sizeSs : (Tryd.prog.info? 31).map (·.size) = some 1 := by kernel_rfl
theorem sizeBo : (Tryd.prog.info? 4).map (·.size) = some 1 := by kernel_rfl
theorem tcells_one {k : List UInt8} {M : List Nat} (vb vl ve : Value) (q : Bool) (h1 : vb.oneCell' = true) (h2 : vl.oneCell' = true) (h3 : ve.oneCell' = true) : ∀ u ∈ tcells k M vb q vl ve, u.oneCell' = true := by
  intro u hu
  unfold tcells tcells.ucells at hu
  rcases List.mem_append.1 hu with h | h
  · exact bcells_one k u h
  rcases List.mem_append.1 h with h | h
  · exact H.ucells_one M u h
  simp only [List.mem_cons, List.not_mem_nil, or_false] at h
  rcases h with rfl | rfl | rfl | rfl
  · exact h1
  · rfl
  · exact h2
  · exact h3
theorem build_run (k : List UInt8) (M : List Nat) (hk : k.length = 38) (hM : M.length = 4) (ab : Option Addr) (nb cb : Nat) (q : Bool) (w : World) :
    (Instr.build 64 #[(0, .agg (bcells k).toArray), (1, .agg (H.ucells M).toArray), (2, .slice ab nb cb), (3, .bool q)]).run Tryd.prog w = .ok (.agg (tcells k M (.slice ab nb cb) q (.slice none 0 0) (.slice none 0 0)).toArray) w := by
  have hk2 : (bcells k).length = 38 := by rw [bcells_length, hk]
  have hM2 : (H.ucells M).length = 4 := by rw [H.ucells_length, hM]
  have hz : noT = [] ++ (bcells K.noK ++ (H.ucells H.noW ++ [.slice none 0 0, .bool false, .slice none 0 0, .slice none 0 0])) := rfl
  obtain ⟨F, hF, hr⟩ : ∃ F : Array Field, Tryd.prog.underlying 64 = some (.struct F) ∧ ∀ w : World, (F.mapM fun f : Field => (do pure (f.offset, ← sizeOf f.type) : Sem (Nat × Nat))).run Tryd.prog w = .ok #[(0, 38), (38, 4), (42, 1), (43, 1), (44, 1), (45, 1)] w := ⟨_, Tryd.underlying64, fun w => by kernel_rfl⟩
  unfold Instr.build
  simp only [zeroTy, Sem.run_bind, Result.andThen_ok, run_underlying hF, Value.cells, hr]
  rw [hz]
  rw [fill_one _ [] (bcells K.noK) _ (bcells k) 0 _ _ (by rw [hk2]; rfl) rfl (by rw [hk2]; rfl)]
  rw [List.nil_append, fill_one _ (bcells k) (H.ucells H.noW) _ (H.ucells M) 1 _ _ (by rw [hk2, hM2]; rfl) rfl (by rw [hM2]; rfl)]
  rw [← List.append_assoc (bcells k), show ([.slice none 0 0, .bool false, .slice none 0 0, .slice none 0 0] : List Value) = [.slice none 0 0] ++ [.bool false, .slice none 0 0, .slice none 0 0] from rfl]
  rw [fill_one _ (bcells k ++ H.ucells M) [.slice none 0 0] [.bool false, .slice none 0 0, .slice none 0 0] [.slice ab nb cb] 2 _ _ (by rw [List.length_append, hk2, hM2]; rfl) rfl rfl]
  rw [← List.append_assoc (bcells k ++ H.ucells M)]
  rw [show ([.bool false, .slice none 0 0, .slice none 0 0] : List Value) = [.bool false] ++ [.slice none 0 0, .slice none 0 0] from rfl]
  rw [fill_one _ (bcells k ++ H.ucells M ++ [Value.slice ab nb cb]) [.bool false] [.slice none 0 0, .slice none 0 0] [.bool q] 3 _ _ (by rw [List.length_append, List.length_append, hk2, hM2]; rfl) rfl rfl]
  simp [Instr.fill, tcells, tcells.ucells]
end Go.Proofs.YtomgnnbcaficaaaDoor.L
