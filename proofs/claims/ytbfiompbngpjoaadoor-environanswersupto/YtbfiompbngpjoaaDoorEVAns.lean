/-
  Plain laws of what the document's answer picks; contract of strings.HasPrefix at a text of one byte; no condition but that an int tells the text's length.
-/
import Derived.Test.YtbfiompbngpjoaaDoorEWritesWalk
namespace Go.Proofs.YtbfiompbngpjoaaDoor.E
open Go.RowKit Go.Lib Go.Proofs.YtbfiompbngpjoaaDoor Go.Proofs.YtbfiompbngpjoaaDoor.W Go.Proofs.YtbfiompbngpjoaaDoor.Q Go.Proofs.YtbfiompbngpjoaaDoor.C

/-- what stands among the variables for one that is wanted -/
def hits (x : Vr) (l : List Vr) : List Vr := if x.name = [] then l.filter (sameUser x) else (l.filter (fun v => same v x)).take 1
theorem hits_all {x : Vr} (h : x.name = []) (l : List Vr) : hits x l = l.filter (sameUser x) := by rw [hits, if_pos h]
theorem hits_named {x : Vr} (h : x.name ≠ []) (l : List Vr) : hits x l = (l.filter (fun v => same v x)).take 1 := by rw [hits, if_neg h]
theorem hits_zero (x : Vr) (l : List Vr) : hits x (l.take 0) = [] := by
  rw [List.take_zero, hits]
  split <;> rfl
theorem hits_skip1 {x : Vr} {l : List Vr} {j : Nat} (h : j < l.length) (hu : l[j].user ≠ x.user) : hits x (l.take (j + 1)) = hits x (l.take j) := by
  rw [hits, hits]
  split
  · exact filter_no h (decide_eq_false hu)
  · rw [take_snocV h, List.filter_append, List.filter_cons, if_neg (by rw [same_no2 hu]; simp)]
    simp
theorem hits_put1 {x : Vr} {l : List Vr} {j : Nat} (h : j < l.length) (hu : l[j].user = x.user) (hx : x.name = []) : hits x (l.take (j + 1)) = hits x (l.take j) ++ [l[j]] := by
  rw [hits_all hx, hits_all hx]
  exact filter_yes h (decide_eq_true hu)
theorem hits_skip2 {x : Vr} {l : List Vr} {j : Nat} (h : j < l.length) (hx : x.name ≠ []) (hn : l[j].name ≠ x.name) : hits x (l.take (j + 1)) = hits x (l.take j) := by
  rw [hits_named hx, hits_named hx, take_snocV h, List.filter_append, List.filter_cons, if_neg (by rw [same_no1 hn]; simp)]
  simp
theorem hits_put2 {x : Vr} {l : List Vr} {j : Nat} (h : j < l.length) (hu : l[j].user = x.user) (hx : x.name ≠ []) (hn : l[j].name = x.name) (h0 : (hits x (l.take j)).length = 0) : hits x (l.take (j + 1)) = hits x (l.take j) ++ [l[j]] := by
  have e0 := List.length_eq_zero_iff.1 h0
  rw [e0]
  rw [hits_named hx] at e0 ⊢
  rw [take_snocV h, List.filter_append, List.filter_cons, if_pos (same_yes hn hu)]
  have e1 : (l.take j).filter (fun v => same v x) = [] := by
    cases hf : (l.take j).filter (fun v => same v x) with
    | nil => rfl
    | cons a t => rw [hf] at e0; simp at e0
  rw [e1]
  rfl
theorem hits_skip3 {x : Vr} {l : List Vr} {j : Nat} (h : j < l.length) (hx : x.name ≠ []) (h0 : (hits x (l.take j)).length ≠ 0) : hits x (l.take (j + 1)) = hits x (l.take j) := by
  rw [hits_named hx] at h0 ⊢
  rw [hits_named hx, take_snocV h, List.filter_append]
  cases hf : (l.take j).filter (fun v => same v x) with
  | nil => rw [hf] at h0; simp at h0
  | cons a t => simp
theorem first_hits {x : Vr} (hx : x.name ≠ []) : ∀ l : List Vr, [firstOf l x] = if hits x l = [] then [x] else hits x l
  | [] => by rw [hits_named hx]; rfl
  | v :: l => by
    have ih := first_hits hx l
    rw [firstOf, hits_named hx, List.filter_cons]
    by_cases h : same v x = true
    · rw [if_pos h, if_pos h]
      rfl
    · rw [if_neg h, if_neg h, ← hits_named hx]
      exact ih
theorem one_all {x : Vr} (h : x.name = []) (l : List Vr) : oneOf l x = hits x l := by
  rw [oneOf, if_pos h, hits_all h]
  rfl
theorem one_none {x : Vr} (h : x.name ≠ []) {l : List Vr} (h0 : (hits x l).length = 0) : oneOf l x = [x] := by
  rw [oneOf, if_neg h, first_hits h, if_pos (List.length_eq_zero_iff.1 h0)]
theorem one_some {x : Vr} (h : x.name ≠ []) {l : List Vr} (h0 : (hits x l).length ≠ 0) : oneOf l x = hits x l := by
  rw [oneOf, if_neg h, first_hits h, if_neg (fun e => h0 (by rw [e]; rfl))]
theorem pick_next {l m : List Vr} {k : Nat} (h : k < m.length) : pickT l (m.take (k + 1)) = pickT l (m.take k) ++ oneOf l m[k] := by
  rw [take_snocV h, pickT_app, pickT, pickT, List.append_nil]
theorem hits_len (x : Vr) (l : List Vr) : (hits x l).length ≤ l.length := by
  rw [hits]
  split
  · exact List.length_filter_le _ _
  · have h1 : ((l.filter (fun v => same v x)).take 1).length ≤ (l.filter (fun v => same v x)).length := by rw [List.length_take]; omega
    have h2 := List.length_filter_le (fun v => same v x) l
    omega
theorem one_len (x : Vr) (l : List Vr) : (oneOf l x).length ≤ l.length + 1 := by
  rw [oneOf]
  split
  · have := List.length_filter_le (fun v : Vr => decide (v.user = x.user)) l
    omega
  · simp
theorem pick_len (l : List Vr) (hl : l.length ≤ 1048576) : ∀ m : List Vr, (pickT l m).length ≤ 1048577 * m.length
  | [] => by simp [pickT]
  | x :: m => by
    have h1 := pick_len l hl m
    have h2 := one_len x l
    rw [pickT, List.length_append, List.length_cons]
    omega

set_option maxHeartbeats 4000000 in
theorem HasPrefix_one (d : List UInt8) (w : World) (hz : d.length ≤ 9223372036854775807) :
    Calls Tryd.prog 22 #[.string (bs d), .string ⟨#[1]⟩] w fun e w' => e = .returned (.bool (cutP d).2) ∧ w' = w := by
  have HP : Hid (Calls Tryd.prog 28 #[.string (bs d), .string ⟨#[1]⟩] w fun e w' => e = .returned (.bool (cutP d).2) ∧ w' = w) := by
    match d, hz with
    | [], _ =>
      show Calls _ _ #[.string ⟨#[]⟩, _] _ _
      go_enter Tryd.func28, Tryd.ntmps28
      go_wp2
      go_ret
      exact ⟨rfl, rfl⟩
    | x :: s, hz =>
      have hsz : (bs (x :: s)).size = s.length + 1 := by rw [bs_size]; rfl
      have hx0 : (bs (x :: s)).extract 0 1 = ⟨#[x]⟩ := bs_take (x :: s) 1
      rw [List.length_cons] at hz
      by_cases h : x = 1
      · subst h
        rw [show (cutP (1 :: s)).2 = true from rfl]
        generalize bs (1 :: s) = D at *
        go_enter Tryd.func28, Tryd.ntmps28
        go_wp2
        go_ret
        exact ⟨rfl, rfl⟩
      · rw [show (cutP (x :: s)).2 = false from by rw [cutP, if_neg h]]
        have hq : ((⟨#[x]⟩ : ByteArray).toList == [1]) = false := by
          rw [ByteArray.toList_eq]
          apply beq_false_of_ne
          simpa using h
        generalize bs (x :: s) = D at *
        generalize (⟨#[x]⟩ : ByteArray) = X at *
        go_enter Tryd.func28, Tryd.ntmps28
        go_wp2
        go_ret
        exact ⟨rfl, rfl⟩
  generalize (cutP d).2 = r at *
  generalize bs d = D at *
  go_enter Tryd.func22, Tryd.ntmps22
  go_wp2_with fail
  refine HP.out.mono ?_
  rintro e w1 ⟨rfl, rfl⟩
  go_wp2
  go_ret
  exact ⟨rfl, rfl⟩
end Go.Proofs.YtbfiompbngpjoaaDoor.E
