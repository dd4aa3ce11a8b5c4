/-
  Keys as a row of 38 bytes, what is heard and what is said, as plain functions. No condition.
-/
import Derived.Below
namespace Go.Proofs.YtomgnnbcaficaaaDoor.K

/-- a function's level, and its key -/
def lv (k : List UInt8) (f : Nat) : UInt8 := k.getD f 0
def ch (k : List UInt8) (f : Nat) : UInt8 := k.getD (19 + f) 0
/-- both put in their places -/
def put (k : List UInt8) (f : Nat) (a b : UInt8) : List UInt8 := (k.set f a).set (19 + f) b
/-- is it a function? -/
def isF (f : UInt8) : Bool := decide (1 ≤ f.toNat ∧ f.toNat ≤ 18)

/-- what a function's level and key become, and what is said of it, if anything -/
def say (o y g c : UInt8) : UInt8 × UInt8 × Option (UInt8 × UInt8) :=
  if g % 4 = o ∧ c = y then (o, y, none)
  else if 128 ≤ g then (if g % 4 = 3 then (o, y, none) else (g % 4, c, none))
  else if g % 4 = 0 then (0, c, some (128, c))
  else if g % 4 = 3 then (o, y, some (o, y))
  else if o = 1 then (if g % 4 = 1 then (0, 0, some (0, 0)) else (o, y, some (1, y)))
  else (g % 4, c, some (128 + g % 4, c))

def outB (f : UInt8) : Option (UInt8 × UInt8) → List UInt8
  | none => []
  | some (g, c) => [f, g, c]

/-- one three of bytes -/
def take1 (k : List UInt8) (f g c : UInt8) : List UInt8 × List UInt8 :=
  if isF f then (put k f.toNat (say (lv k f.toNat) (ch k f.toNat) g c).1 (say (lv k f.toNat) (ch k f.toNat) g c).2.1, outB f (say (lv k f.toNat) (ch k f.toNat) g c).2.2)
  else (k, if g < 128 then [f, 0, 0] else [])

/-- three by three -/
def run : List UInt8 → List UInt8 → List UInt8 × List UInt8
  | k, f :: g :: c :: r => ((run (take1 k f g c).1 r).1, (take1 k f g c).2 ++ (run (take1 k f g c).1 r).2)
  | k, _ => (k, [])

/-- are they keys? -/
def right (k : List UInt8) : Bool := decide (k.getD 0 0 = 0 ∧ k.getD 19 0 = 0) && (List.range 19).all fun f => decide (lv k f ≤ 2)

/-- Check, All, Take -/
def chk (k : List UInt8) : Int := if right k then 0 else 4
def text (k : List UInt8) : List UInt8 := (List.range 18).flatMap fun f => [UInt8.ofNat (f + 1), lv k (f + 1), ch k (f + 1)]
def allT (k : List UInt8) : List UInt8 × Int := if right k then (text k, 0) else ([], 4)
def takeT (k d : List UInt8) : List UInt8 × List UInt8 × Int :=
  if right k then (if d.length % 3 = 0 then (if d.length ≤ 300 then ((run k d).1, (run k d).2, 0) else (k, [], 2)) else (k, [], 4)) else (k, [], 4)

theorem put_length (k : List UInt8) (f : Nat) (a b : UInt8) : (put k f a b).length = k.length := by simp [put]
theorem take1_length (k : List UInt8) (f g c : UInt8) : (take1 k f g c).1.length = k.length := by
  unfold take1
  split
  · exact put_length _ _ _ _
  · rfl
theorem run_cons (k : List UInt8) (f g c : UInt8) (r : List UInt8) : run k (f :: g :: c :: r) = ((run (take1 k f g c).1 r).1, (take1 k f g c).2 ++ (run (take1 k f g c).1 r).2) := by rw [run]
theorem run_nil (k : List UInt8) : run k [] = (k, []) := by rw [run]; simp
theorem run_length : ∀ (n : Nat) (k d : List UInt8), d.length ≤ n → (run k d).1.length = k.length
  | n, k, [], _ => by rw [run_nil]
  | n, k, [_], _ => by simp [run]
  | n, k, [_, _], _ => by simp [run]
  | n, k, f :: g :: c :: r, h => by
    rw [run_cons]
    simp only [List.length_cons] at h
    obtain ⟨m, rfl⟩ : ∃ m, n = m + 1 := ⟨n - 1, by omega⟩
    rw [run_length m _ r (by omega), take1_length]
theorem run_len (k d : List UInt8) : (run k d).1.length = k.length := run_length _ k d (Nat.le_refl _)
theorem outB_len (f : UInt8) (o : Option (UInt8 × UInt8)) : (outB f o).length ≤ 3 ∧ (outB f o).length % 3 = 0 := by
  cases o with
  | none => simp [outB]
  | some p => simp [outB]
theorem take1_out (k : List UInt8) (f g c : UInt8) : (take1 k f g c).2.length ≤ 3 ∧ (take1 k f g c).2.length % 3 = 0 := by
  unfold take1
  split
  · exact outB_len _ _
  · split <;> simp
theorem run_out : ∀ (n : Nat) (k d : List UInt8), d.length ≤ n → (run k d).2.length ≤ d.length ∧ (run k d).2.length % 3 = 0
  | n, k, [], _ => by rw [run_nil]; simp
  | n, k, [_], _ => by simp [run]
  | n, k, [_, _], _ => by simp [run]
  | n, k, f :: g :: c :: r, h => by
    rw [run_cons]
    simp only [List.length_cons] at h
    obtain ⟨m, rfl⟩ : ∃ m, n = m + 1 := ⟨n - 1, by omega⟩
    have h1 := run_out m (take1 k f g c).1 r (by omega)
    have h2 := take1_out k f g c
    simp only [List.length_append, List.length_cons]
    omega
theorem run_said (k d : List UInt8) : (run k d).2.length ≤ d.length ∧ (run k d).2.length % 3 = 0 := run_out _ k d (Nat.le_refl _)

/-- threes in two goes -/
theorem run_app : ∀ (n : Nat) (k a b : List UInt8), a.length ≤ n → a.length % 3 = 0 → run k (a ++ b) = ((run (run k a).1 b).1, (run k a).2 ++ (run (run k a).1 b).2)
  | n, k, [], b, _, _ => by rw [run_nil]; rfl
  | n, k, [_], b, _, h => by simp at h
  | n, k, [_, _], b, _, h => by simp at h
  | n, k, f :: g :: c :: r, b, h, h3 => by
    simp only [List.length_cons] at h h3
    obtain ⟨m, rfl⟩ : ∃ m, n = m + 1 := ⟨n - 1, by omega⟩
    simp only [List.cons_append]
    rw [run_cons, run_cons, run_app m _ r b (by omega) (by omega), List.append_assoc]
theorem run_two (k a b : List UInt8) (h : a.length % 3 = 0) : run k (a ++ b) = ((run (run k a).1 b).1, (run k a).2 ++ (run (run k a).1 b).2) := run_app _ k a b (Nat.le_refl _) h
theorem run_one (k : List UInt8) (f g c : UInt8) : run k [f, g, c] = take1 k f g c := by rw [run_cons, run_nil]; simp
theorem run_snoc (k a : List UInt8) (f g c : UInt8) (h : a.length % 3 = 0) : run k (a ++ [f, g, c]) = ((take1 (run k a).1 f g c).1, (run k a).2 ++ (take1 (run k a).1 f g c).2) := by
  rw [run_two k a _ h, run_one]
theorem take_three (d : List UInt8) (i : Nat) (h : i + 2 < d.length) : d.take (i + 3) = d.take i ++ [d[i], d[i + 1], d[i + 2]] := by
  have e1 := List.take_succ_eq_append_getElem (show i < d.length by omega)
  have e2 := List.take_succ_eq_append_getElem (show i + 1 < d.length by omega)
  have e3 := List.take_succ_eq_append_getElem (show i + 2 < d.length by omega)
  have e : List.take (i + 3) d = List.take (i + 2) d ++ [d[i + 2]] := e3
  have e' : List.take (i + 2) d = List.take (i + 1) d ++ [d[i + 1]] := e2
  rw [e, e', e1, List.append_assoc, List.append_assoc]
  rfl
theorem run_step (k d : List UInt8) (i : Nat) (h : i + 2 < d.length) (h3 : i % 3 = 0) : run k (d.take (i + 3)) = ((take1 (run k (d.take i)).1 d[i] d[i + 1] d[i + 2]).1, (run k (d.take i)).2 ++ (take1 (run k (d.take i)).1 d[i] d[i + 1] d[i + 2]).2) := by
  rw [take_three d i h, run_snoc _ _ _ _ _ (by rw [List.length_take]; omega)]

theorem lv_put (k : List UInt8) (hk : k.length = 38) (f j : Nat) (a b : UInt8) (hf : f < 19) (hj : j < 19) : lv (put k f a b) j = if j = f then a else lv k j := by
  unfold lv put
  rw [List.getD_eq_getElem?_getD, List.getD_eq_getElem?_getD, List.getElem?_set_ne (by omega)]
  split
  · subst j; rw [List.getElem?_set_self (by omega)]; rfl
  · rw [List.getElem?_set_ne (by omega)]
theorem ch_put (k : List UInt8) (hk : k.length = 38) (f j : Nat) (a b : UInt8) (hf : f < 19) (hj : j < 19) : ch (put k f a b) j = if j = f then b else ch k j := by
  unfold ch put
  rw [List.getD_eq_getElem?_getD, List.getD_eq_getElem?_getD]
  split
  · subst j; rw [List.getElem?_set_self (by simp; omega)]; rfl
  · rw [List.getElem?_set_ne (by omega), List.getElem?_set_ne (by omega)]
theorem put_same (k : List UInt8) (f : Nat) (hk : k.length = 38) (hf : f < 19) : put k f (lv k f) (ch k f) = k := by
  unfold put lv ch
  rw [List.getD_eq_getElem?_getD, List.getD_eq_getElem?_getD, List.getElem?_eq_getElem (show f < k.length by omega), List.getElem?_eq_getElem (show 19 + f < k.length by omega)]
  simp

theorem right_iff (k : List UInt8) : right k = true ↔ lv k 0 = 0 ∧ ch k 0 = 0 ∧ ∀ f, f < 19 → lv k f ≤ 2 := by
  unfold right
  rw [Bool.and_eq_true, decide_eq_true_eq, List.all_eq_true]
  constructor
  · rintro ⟨⟨h1, h2⟩, h3⟩
    exact ⟨h1, h2, fun f hf => of_decide_eq_true (h3 f (List.mem_range.2 hf))⟩
  · rintro ⟨h1, h2, h3⟩
    exact ⟨⟨h1, h2⟩, fun f hf => decide_eq_true (h3 f (List.mem_range.1 hf))⟩
theorem mod4_le (g : UInt8) (h : ¬ g % 4 = 3) : g % 4 ≤ 2 := by
  rw [UInt8.le_iff_toNat_le]
  have h1 : (g % 4).toNat = g.toNat % 4 := by simp
  have h2 : (g % 4).toNat ≠ 3 := fun e => h (UInt8.toNat_inj.1 e)
  have h3 : (2 : UInt8).toNat = 2 := rfl
  omega
theorem say_lv {o y g c : UInt8} (ho : o ≤ 2) : (say o y g c).1 ≤ 2 := by
  unfold say
  repeat' split
  all_goals first | exact ho | exact mod4_le _ ‹_› | exact (by decide : (0 : UInt8) ≤ 2)
theorem take1_right {k : List UInt8} (hk : k.length = 38) (h : right k = true) (f g c : UInt8) : right (take1 k f g c).1 = true := by
  unfold take1
  split
  · rename_i hf
    obtain ⟨f1, f2⟩ := of_decide_eq_true hf
    rw [right_iff] at h ⊢
    obtain ⟨h1, h2, h3⟩ := h
    refine ⟨?_, ?_, fun j hj => ?_⟩
    · rw [lv_put k hk _ _ _ _ (by omega) (by omega), if_neg (by omega)]; exact h1
    · rw [ch_put k hk _ _ _ _ (by omega) (by omega), if_neg (by omega)]; exact h2
    · rw [lv_put k hk _ _ _ _ (by omega) hj]
      split
      · exact say_lv (h3 _ (by omega))
      · exact h3 j hj
  · exact h
theorem run_right_of : ∀ (n : Nat) (k d : List UInt8), d.length ≤ n → k.length = 38 → right k = true → right (run k d).1 = true
  | n, k, [], _, _, h => by rw [run_nil]; exact h
  | n, k, [_], _, _, h => by simpa [run] using h
  | n, k, [_, _], _, _, h => by simpa [run] using h
  | n, k, f :: g :: c :: r, hn, hk, h => by
    rw [run_cons]
    simp only [List.length_cons] at hn
    obtain ⟨m, rfl⟩ : ∃ m, n = m + 1 := ⟨n - 1, by omega⟩
    exact run_right_of m _ r (by omega) (by rw [take1_length]; exact hk) (take1_right hk h f g c)
theorem run_right {k : List UInt8} (hk : k.length = 38) (h : right k = true) (d : List UInt8) : right (run k d).1 = true := run_right_of _ k d (Nat.le_refl _) hk h
theorem takeT_len (k d : List UInt8) : (takeT k d).1.length = k.length := by
  unfold takeT
  repeat' split
  all_goals first | rfl | exact run_len k d
theorem takeT_said (k d : List UInt8) : (takeT k d).2.1.length ≤ 300 := by
  unfold takeT
  repeat' split
  all_goals first | exact Nat.le_trans (run_said k d).1 ‹_› | simp
theorem text_len (k : List UInt8) : (text k).length = 54 := by
  simp only [text, List.length_flatMap, List.length_cons, List.length_nil]
  rfl
end Go.Proofs.YtomgnnbcaficaaaDoor.K
