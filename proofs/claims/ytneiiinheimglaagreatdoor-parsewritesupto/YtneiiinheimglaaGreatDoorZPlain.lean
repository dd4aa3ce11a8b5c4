/-
  Plain functions of the document's chapter on the numbers of a command, and their laws; no program, no condition.
-/
import Derived.Test.YtneiiinheimglaaGreatDoorCPlain
import Derived.Lib.ItoaNum
namespace Go.Proofs.YtneiiinheimglaaGreatDoor.Z
open Go.RowKit Go.Lib Go.Proofs.YtneiiinheimglaaGreatDoor Go.Proofs.YtneiiinheimglaaGreatDoor.W Go.Proofs.YtneiiinheimglaaGreatDoor.C

def dig (b : UInt8) : Bool := decide (48 ≤ b.toNat ∧ b.toNat ≤ 57)
def okB (b : UInt8) : Bool := dig b || b == 59
/-- a digit behind a number -/
def wd (n d : Int) : Int := min (max n 0 * 10 + d) 16383
/-- a number behind those that are told, if it counts -/
def put (l : List Int) (n : Int) : List Int := if l.length < 32 then l ++ [n] else l
/-- what is read of a text, with a number under way and those that are told -/
def rd : List UInt8 → Int → List Int → List Int
  | [], n, l => put l n
  | b :: r, n, l => if b = 59 then rd r (-1) (put l n) else rd r (wd n ((b.toNat : Int) - 48)) l
def okS (s : List UInt8) : Bool := s.all okB
def num (n : Int) (p : List UInt8) : Int := p.foldl (fun n b => wd n ((b.toNat : Int) - 48)) n
def nums (n : Int) (s : List UInt8) : List Int := match pieces 59 s with
  | [] => []
  | p :: r => num n p :: r.map (num (-1))
def readT (s : List UInt8) : List Int × Int := if okS s = true then (rd s (-1) [], 0) else ([], 4)

theorem put_length {l : List Int} (n : Int) (h : l.length ≤ 32) : (put l n).length ≤ 32 := by
  unfold put
  split
  · rw [List.length_append, List.length_singleton]; omega
  · exact h
theorem put_take {l : List Int} (n : Int) (h : l.length ≤ 32) (r : List Int) : (put l n ++ r).take 32 = (l ++ n :: r).take 32 := by
  unfold put
  split
  · simp
  · have : l.length = 32 := by omega
    rw [List.take_left' this, List.take_left' this]
theorem nums_map (s : List UInt8) : nums (-1) s = (pieces 59 s).map (num (-1)) := by
  unfold nums
  cases pieces 59 s <;> rfl
theorem rd_nums : ∀ (s : List UInt8) (n : Int) (l : List Int), l.length ≤ 32 → rd s n l = (l ++ nums n s).take 32
  | [], n, l, h => by
    have := put_take n h []
    rw [List.append_nil, List.take_of_length_le (put_length n h)] at this
    exact this
  | b :: r, n, l, h => by
    rw [rd]
    by_cases hb : b = 59
    · rw [if_pos hb, rd_nums r _ _ (put_length n h), put_take n h]
      congr 2
      unfold nums
      rw [pieces, if_pos hb]
      show n :: nums (-1) r = _
      rw [nums_map]
      rfl
    · rw [if_neg hb, rd_nums r _ _ h]
      congr 2
      unfold nums
      rw [pieces, if_neg hb]
      cases hp : pieces 59 r with
      | nil => exact absurd hp (pieces_ne 59 r)
      | cons p q => rfl
theorem rd_map (s : List UInt8) : rd s (-1) [] = ((pieces 59 s).map (num (-1))).take 32 := by
  rw [rd_nums s (-1) [] (by decide), nums_map, List.nil_append]
theorem rd_len (s : List UInt8) : (rd s (-1) []).length ≤ 32 := by rw [rd_map]; exact List.length_take_le _ _
theorem rd_pos (s : List UInt8) : 1 ≤ (rd s (-1) []).length := by
  rw [rd_map, List.length_take, List.length_map]
  have := List.length_pos_iff.2 (pieces_ne 59 s)
  omega
theorem wd_bound {n d : Int} (hd : 0 ≤ d) : -1 ≤ wd n d ∧ wd n d ≤ 16383 := by unfold wd; omega
theorem dig_not {b : UInt8} (h : dig b = true) : b ≠ 59 := by
  intro e; subst e; revert h; decide
theorem okB_cases {b : UInt8} (h : okB b = true) : b = 59 ∨ dig b = true := by
  unfold okB at h
  rcases Bool.or_eq_true _ _ ▸ h with h | h
  · exact .inr h
  · exact .inl (beq_iff_eq.1 h)
theorem dig_iff {b : UInt8} : dig b = true ↔ 48 ≤ b.toNat ∧ b.toNat ≤ 57 := decide_eq_true_iff
def right (n : Int) : Prop := -1 ≤ n ∧ n ≤ 16383
theorem put_right {l : List Int} {n : Int} (hl : ∀ x ∈ l, right x) (hn : right n) : ∀ x ∈ put l n, right x := by
  unfold put
  split
  · intro x hx
    rcases List.mem_append.1 hx with h | h
    · exact hl x h
    · rw [List.mem_singleton.1 h]; exact hn
  · exact hl
theorem rd_right : ∀ (s : List UInt8) (n : Int) (l : List Int), okS s = true → right n → (∀ x ∈ l, right x) → ∀ x ∈ rd s n l, right x
  | [], n, l, _, hn, hl => put_right hl hn
  | b :: r, n, l, hs, hn, hl => by
    unfold okS at hs
    rw [List.all_cons, Bool.and_eq_true] at hs
    rw [rd]
    by_cases hb : b = 59
    · rw [if_pos hb]
      exact rd_right r _ _ hs.2 (by unfold right; omega) (put_right hl hn)
    · rw [if_neg hb]
      refine rd_right r _ _ hs.2 ?_ hl
      rcases okB_cases hs.1 with h | h
      · exact absurd h hb
      · have := dig_iff.1 h
        exact wd_bound (by omega)

/-- a number as it is written -/
def word (n : Int) : List UInt8 := if n = -1 then [] else decDigits n.toNat
def text (l : List Int) : List UInt8 := Lib.join (l.map word) [59]
def okL (l : List Int) : Bool := l.all (fun n => decide (-1 ≤ n ∧ n ≤ 16383)) && decide (0 < l.length)
def writeT (l : List Int) : List UInt8 × Int := if okL l = true then (if 32 < l.length then ([], 2) else (text l, 0)) else ([], 1)

theorem dig_of {d : Nat} (h : d < 10) : dig (UInt8.ofNat (48 + d)) = true ∧ (((UInt8.ofNat (48 + d)).toNat : Nat) : Int) - 48 = d := by
  have e : (UInt8.ofNat (48 + d)).toNat = 48 + d := by rw [UInt8.toNat_ofNat']; omega
  exact ⟨dig_iff.2 (by omega), by omega⟩
theorem digits_dig (u : Nat) : ∀ b ∈ decDigits u, dig b = true := by
  induction u using Nat.strongRecOn with
  | ind u ih =>
    intro b hb
    rw [decDigits] at hb
    split at hb
    · rename_i h
      rw [List.mem_singleton.1 hb]; exact (dig_of h).1
    · rename_i h
      rcases List.mem_append.1 hb with h1 | h1
      · exact ih (u / 10) (by omega) b h1
      · rw [List.mem_singleton.1 h1]; exact (dig_of (Nat.mod_lt _ (by decide))).1
theorem num_digits (u : Nat) (hu : u ≤ 16383) : num (-1) (decDigits u) = u := by
  induction u using Nat.strongRecOn with
  | ind u ih =>
    rw [decDigits]
    split
    · rename_i h
      show wd (-1) _ = _
      rw [(dig_of h).2]; unfold wd; omega
    · rename_i h
      unfold num at ih ⊢
      rw [List.foldl_append, ih (u / 10) (by omega) (by omega)]
      show wd _ _ = _
      rw [(dig_of (Nat.mod_lt u (by decide))).2]; unfold wd; omega
theorem word_dig (n : Int) : ∀ b ∈ word n, dig b = true := by
  unfold word
  split
  · intro b hb; cases hb
  · exact digits_dig _
theorem num_word {n : Int} (h : right n) : num (-1) (word n) = n := by
  unfold right at h
  unfold word
  split
  · rename_i e; rw [e]; rfl
  · rename_i e
    rw [num_digits _ (by omega)]; omega
theorem word_length {n : Int} (h : right n) : (word n).length ≤ 5 := by
  unfold right at h
  unfold word
  split
  · exact Nat.zero_le _
  · rename_i e
    have h4 : ∀ u : Nat, u < 10 → (decDigits u).length ≤ 1 := fun u hu => by rw [decDigits_one hu]; exact Nat.le_refl _
    have st : ∀ k u : Nat, (∀ v, v < 10 ^ k → (decDigits v).length ≤ k) → u < 10 ^ (k + 1) → 0 < k → (decDigits u).length ≤ k + 1 := fun k u ih hu hk => by
      rw [decDigits]
      split
      · exact Nat.succ_le_succ (Nat.zero_le _)
      · rw [List.length_append, List.length_singleton]
        have := ih (u / 10) (by rw [Nat.pow_succ] at hu; omega)
        omega
    have h1 : ∀ v, v < 10 ^ 1 → (decDigits v).length ≤ 1 := fun v hv => h4 v (by omega)
    have h2 : ∀ v, v < 10 ^ 2 → (decDigits v).length ≤ 2 := fun v hv => st 1 v h1 hv (by decide)
    have h3 : ∀ v, v < 10 ^ 3 → (decDigits v).length ≤ 3 := fun v hv => st 2 v h2 hv (by decide)
    have h5 : ∀ v, v < 10 ^ 4 → (decDigits v).length ≤ 4 := fun v hv => st 3 v h3 hv (by decide)
    have h6 : ∀ v, v < 10 ^ 5 → (decDigits v).length ≤ 5 := fun v hv => st 4 v h5 hv (by decide)
    exact h6 _ (by omega)
theorem okL_right {l : List Int} (h : okL l = true) : (∀ x ∈ l, right x) ∧ l ≠ [] := by
  unfold okL at h
  rw [Bool.and_eq_true, List.all_eq_true] at h
  have h1 : ∀ x ∈ l, (-1 ≤ x ∧ x ≤ 16383) := fun x hx => of_decide_eq_true (h.1 x hx)
  exact ⟨h1, List.length_pos_iff.1 (of_decide_eq_true h.2)⟩
theorem okL_of {l : List Int} (h : ∀ x ∈ l, right x) (h0 : l ≠ []) : okL l = true := by
  have h1 : ∀ x ∈ l, (-1 ≤ x ∧ x ≤ 16383) := h
  unfold okL
  rw [Bool.and_eq_true, List.all_eq_true]
  exact ⟨fun x hx => decide_eq_true (h1 x hx), decide_eq_true (List.length_pos_iff.2 h0)⟩
theorem join_ok : ∀ (l : List (List UInt8)), (∀ x ∈ l, okS x = true) → okS (Lib.join l [59]) = true
  | [], _ => rfl
  | [x], h => by rw [Lib.join_one]; exact h x (by simp)
  | x :: y :: r, h => by
    have e : Lib.join (x :: y :: r) [59] = x ++ 59 :: Lib.join (y :: r) [59] := by
      rw [Lib.join_cons, Lib.join_cons, Lib.joinTail]
      simp [Lib.joinTail]
    have h1 := join_ok (y :: r) (fun z hz => h z (by simp [hz]))
    have h2 := h x (by simp)
    unfold okS at h1 h2 ⊢
    rw [e, List.all_append, List.all_cons, h2, h1]; rfl
theorem word_ok (n : Int) : okS (word n) = true := by
  unfold okS
  rw [List.all_eq_true]
  intro b hb
  unfold okB
  rw [word_dig n b hb]; rfl
/-- what is written is read as it was -/
theorem read_text (l : List Int) (h : okL l = true) (h32 : l.length ≤ 32) : readT (text l) = (l, 0) := by
  obtain ⟨hr, h0⟩ := okL_right h
  have hok : okS (text l) = true := join_ok _ (fun x hx => by obtain ⟨n, _, rfl⟩ := List.mem_map.1 hx; exact word_ok n)
  unfold readT
  rw [if_pos hok, rd_map]
  unfold text
  rw [pieces_join 59 (l.map word) (by simpa using h0) (fun x hx h59 => by
    obtain ⟨n, _, rfl⟩ := List.mem_map.1 hx
    exact dig_not (word_dig n _ h59) rfl), List.map_map]
  congr 1
  rw [List.take_of_length_le (by rw [List.length_map]; exact h32)]
  refine (List.map_congr_left (fun n hn => ?_)).trans (List.map_id l)
  exact num_word (hr n hn)
theorem readT_ok {s : List UInt8} (h : okS s = true) : okL (rd s (-1) []) = true ∧ 1 ≤ (rd s (-1) []).length ∧ (rd s (-1) []).length ≤ 32 :=
  ⟨okL_of (rd_right s (-1) [] h (by unfold right; omega) (fun x hx => by cases hx)) (List.length_pos_iff.1 (rd_pos s)), rd_pos s, rd_len s⟩
theorem pieces_app (c : UInt8) (b : List UInt8) : ∀ a : List UInt8, pieces c (a ++ c :: b) = pieces c a ++ pieces c b
  | [] => by simp [pieces]
  | x :: a => by
    rw [List.cons_append, pieces, pieces, pieces_app c b a]
    split
    · rfl
    · cases h : pieces c a with
      | nil => exact absurd h (pieces_ne c a)
      | cons p r => rfl
theorem okS_app (a b : List UInt8) : okS (a ++ 59 :: b) = (okS a && okS b) := by
  unfold okS
  rw [List.all_append, List.all_cons]
  rfl
theorem take_two (A B : List Int) : (A ++ B).take 32 = (A.take 32 ++ B.take 32).take 32 := by
  rw [List.take_append, List.take_append, List.take_take, List.take_take, Nat.min_self, List.length_take]
  congr 1
  by_cases h : A.length ≤ 32
  · rw [Nat.min_eq_right h]; congr 1; omega
  · rw [show 32 - A.length = 0 by omega, show min (32 - min 32 A.length) 32 = 0 by omega]
theorem rd_join (a b : List UInt8) : rd (a ++ 59 :: b) (-1) [] = (rd a (-1) [] ++ rd b (-1) []).take 32 := by
  rw [rd_map, rd_map, rd_map, pieces_app, List.map_append, take_two]
theorem text_length (l : List Int) (h : ∀ x ∈ l, right x) : (text l).length ≤ 6 * l.length := by
  unfold text
  induction l with
  | nil => simp [Lib.join_nil]
  | cons x r ih =>
    have h1 := word_length (h x (by simp))
    cases r with
    | nil => rw [List.map_cons, List.map_nil, Lib.join_one, List.length_singleton]; omega
    | cons y r =>
      have e : Lib.join (word x :: word y :: r.map word) [59] = word x ++ 59 :: Lib.join (word y :: r.map word) [59] := by
        rw [Lib.join_cons, Lib.join_cons, Lib.joinTail]
        simp [Lib.joinTail]
      have h2 := ih (fun z hz => h z (by simp [hz]))
      rw [List.map_cons, List.map_cons, e, List.length_append, List.length_cons]
      rw [List.map_cons] at h2
      simp only [List.length_cons] at h2 ⊢
      omega
end Go.Proofs.YtneiiinheimglaaGreatDoor.Z
