/-
  Plain functions of the document's chapter on pages, and their laws; no program, no condition.
-/
import Derived.Test.YtneiiinheimglaaGreatDoorJ2
import Derived.Lib.Join
import Derived.Lib.Bytealg
namespace Go.Proofs.YtneiiinheimglaaGreatDoor.C
open Go.RowKit Go.Lib Go.Proofs.YtneiiinheimglaaGreatDoor Go.Proofs.YtneiiinheimglaaGreatDoor.W

/-- a list of bytes as a text -/
def bs (l : List UInt8) : ByteArray := ⟨l.toArray⟩
theorem bs_data (S : ByteArray) : bs S.data.toList = S := by cases S; simp [bs]
theorem data_bs (l : List UInt8) : (bs l).data.toList = l := by simp [bs]
theorem bs_inj {a b : List UInt8} (h : bs a = bs b) : a = b := by
  have := congrArg (fun S => S.data.toList) h
  simpa [bs] using this
theorem bs_size (l : List UInt8) : (bs l).size = l.length := size_mk l
theorem size_data (S : ByteArray) : S.size = S.data.toList.length := by cases S; simp [ByteArray.size]
theorem get_data (S : ByteArray) (k : Nat) (h : k < S.size) : S[k] = S.data.toList[k]'(by rw [← size_data]; exact h) := by
  cases S; rfl
theorem bs_drop (l : List UInt8) (k : Nat) : (bs l).extract k (bs l).size = bs (l.drop k) := by
  apply ByteArray.ext
  rw [ByteArray.data_extract]
  apply Array.toList_inj.1
  simp only [bs, Array.toList_extract, List.extract_eq_take_drop]
  have : (⟨l.toArray⟩ : ByteArray).size = l.length := by simp [ByteArray.size]
  rw [this, List.take_of_length_le (by simp)]
theorem bs_take (l : List UInt8) (k : Nat) : (bs l).extract 0 k = bs (l.take k) := by
  apply ByteArray.ext
  rw [ByteArray.data_extract]
  apply Array.toList_inj.1
  simp [bs, List.extract_eq_take_drop]
theorem bs_mid (l : List UInt8) (i k : Nat) : (bs l).extract i (i + k) = bs ((l.drop i).take k) := by
  apply ByteArray.ext
  rw [ByteArray.data_extract]
  apply Array.toList_inj.1
  simp only [bs, Array.toList_extract, List.extract_eq_take_drop]
  congr 1
  omega
theorem bs_app (a b : List UInt8) : bs a ++ bs b = bs (a ++ b) := bytes_append a b

/-- a small letter made the capital one -/
def cap (b : UInt8) : UInt8 := if 97 ≤ b.toNat ∧ b.toNat ≤ 122 then b - 32 else b
theorem cap_all : ∀ b : UInt8, (cap b).toNat = (if 97 ≤ b.toNat ∧ b.toNat ≤ 122 then b.toNat - 32 else b.toNat) := by
  intro b
  unfold cap
  split
  · rename_i h
    rw [UInt8.toNat_sub_of_le _ _ (by rw [UInt8.le_iff_toNat_le]; show 32 ≤ b.toNat; omega)]
    rfl
  · rfl
theorem cap_cap (b : UInt8) : cap (cap b) = cap b := by
  apply UInt8.toNat_inj.1
  rw [cap_all (cap b)]
  have := cap_all b
  split
  · split at this <;> omega
  · rfl
def up (S : ByteArray) : ByteArray := ⟨S.data.map cap⟩
theorem up_size (S : ByteArray) : (up S).size = S.size := by
  show (S.data.map cap).size = S.data.size
  exact Array.size_map
theorem up_bs (l : List UInt8) : up (bs l) = bs (l.map cap) := by
  show (⟨l.toArray.map cap⟩ : ByteArray) = ⟨(l.map cap).toArray⟩
  rw [List.map_toArray]
theorem up_list (S : ByteArray) : (up S).data.toList = S.data.toList.map cap := by simp [up]
theorem up_get (S : ByteArray) (k : Nat) (h : k < S.size) (h2 : k < (up S).size) : (up S)[k]'h2 = cap S[k] := by
  cases S
  exact Array.getElem_map cap h2
theorem up_up (S : ByteArray) : up (up S) = up S := by
  cases S
  simp only [up, Array.map_map]
  congr 1
  apply Array.map_congr_left
  intro b _
  exact cap_cap b
/-- two names that are the same once their letters are capital -/
def like (a b : ByteArray) : Bool := decide (up a = up b)
theorem like_size {a b : ByteArray} (h : a.size ≠ b.size) : like a b = false := by
  apply decide_eq_false
  intro e
  have := congrArg ByteArray.size e
  rw [up_size, up_size] at this
  exact h this
theorem like_no {a b : ByteArray} (k : Nat) (h : k < a.size) (h2 : k < b.size) (hn : cap a[k] ≠ cap b[k]) : like a b = false := by
  apply decide_eq_false
  intro e
  apply hn
  rw [← up_get a k h (by rw [up_size]; exact h), ← up_get b k h2 (by rw [up_size]; exact h2)]
  simp only [e]
theorem like_yes {a b : ByteArray} (h : a.size = b.size) (hk : ∀ k (h : k < a.size) (h2 : k < b.size), cap a[k] = cap b[k]) : like a b = true := by
  apply decide_eq_true
  apply ByteArray.ext
  apply Array.ext
  · have h1 := up_size a
    have h2 := up_size b
    simp only [ByteArray.size] at h1 h2 h
    omega
  · intro i h1 h2
    have e1 : i < a.size := by rw [← up_size]; exact h1
    have e2 : i < b.size := by rw [← up_size]; exact h2
    have := hk i e1 e2
    rw [← up_get a i e1 h1, ← up_get b i e2 h2] at this
    exact this
theorem like_comm (a b : ByteArray) : like a b = like b a := by
  unfold like
  by_cases h : up a = up b
  · rw [decide_eq_true h, decide_eq_true h.symm]
  · rw [decide_eq_false h, decide_eq_false (fun e => h e.symm)]
theorem like_up (a b : ByteArray) : like a (up b) = like a b := by unfold like; rw [up_up]
theorem like_self (a : ByteArray) : like a a = true := decide_eq_true rfl
theorem like_len {a b : ByteArray} (h : like a b = true) : a.size = b.size := by
  have := congrArg ByteArray.size (of_decide_eq_true h)
  rwa [up_size, up_size] at this

/-- the first that is like x -/
def firstL (l : List ByteArray) (x : ByteArray) : Option ByteArray := l.find? fun m => like m x
theorem firstL_some (l : List ByteArray) (x : ByteArray) (k : Nat) (h : k < l.length) (he : like l[k] x = true) (hn : ∀ a (ha : a < k), like l[a] x = false) : firstL l x = some l[k] := by
  unfold firstL
  rw [List.find?_eq_some_iff_getElem]
  exact ⟨he, k, h, rfl, fun j hj => by simp [hn j hj]⟩
theorem firstL_none (l : List ByteArray) (x : ByteArray) (hn : ∀ k (h : k < l.length), like l[k] x = false) : firstL l x = none := by
  unfold firstL
  rw [List.find?_eq_none]
  intro y hy
  obtain ⟨k, hk, rfl⟩ := List.mem_iff_getElem.1 hy
  simp [hn k hk]
theorem firstL_like {l : List ByteArray} {x m : ByteArray} (h : firstL l x = some m) : like m x = true ∧ m ∈ l := by
  unfold firstL at h
  exact ⟨List.find?_some (p := fun m => like m x) h, List.mem_of_find?_eq_some h⟩
theorem firstL_up (l : List ByteArray) (x : ByteArray) : firstL l (up x) = firstL l x := by
  unfold firstL
  congr 1
  funext m
  exact like_up m x
/-- the first name that is like one of may, and that one -/
def pick (may : List ByteArray) : List ByteArray → Option (ByteArray × ByteArray)
  | [] => none
  | n :: r => match firstL may n with
    | some m => some (n, m)
    | none => pick may r
theorem pick_some (may : List ByteArray) : ∀ (l : List ByteArray) (k : Nat) (h : k < l.length) (m : ByteArray) (_ : firstL may l[k] = some m) (_ : ∀ a (ha : a < k), firstL may l[a] = none), pick may l = some (l[k], m)
  | [], k, h, _, _, _ => by simp at h
  | n :: r, 0, h, m, he, _ => by
    simp only [List.getElem_cons_zero] at he
    simp [pick, he]
  | n :: r, k + 1, h, m, he, hn => by
    have h0 := hn 0 (by omega)
    simp only [List.getElem_cons_zero] at h0
    simp only [List.getElem_cons_succ] at he
    rw [pick, h0]
    simp only [List.getElem_cons_succ]
    exact pick_some may r k (by simpa using h) m he (fun a ha => by have := hn (a + 1) (by omega); simpa using this)
theorem pick_none (may : List ByteArray) : ∀ (l : List ByteArray) (_ : ∀ k (h : k < l.length), firstL may l[k] = none), pick may l = none
  | [], _ => rfl
  | n :: r, hn => by
    have h0 := hn 0 (by simp)
    simp only [List.getElem_cons_zero] at h0
    rw [pick, h0]
    exact pick_none may r (fun k h => by have := hn (k + 1) (by simpa using h); simpa using this)
theorem pick_like {may : List ByteArray} : ∀ {l : List ByteArray} {n m : ByteArray}, pick may l = some (n, m) → n ∈ l ∧ firstL may n = some m
  | [], _, _, h => by simp [pick] at h
  | x :: r, n, m, h => by
    rw [pick] at h
    cases e : firstL may x with
    | some y =>
      rw [e] at h
      simp only [Option.some.injEq, Prod.mk.injEq] at h
      obtain ⟨rfl, rfl⟩ := h
      exact ⟨by simp, e⟩
    | none =>
      rw [e] at h
      have := pick_like h
      exact ⟨by simp [this.1], this.2⟩
theorem pick_up (may : List ByteArray) : ∀ l : List ByteArray, pick may (l.map up) = (pick may l).map fun x => (up x.1, x.2)
  | [] => rfl
  | n :: r => by
    rw [List.map_cons, pick, pick, firstL_up]
    cases firstL may n with
    | some m => rfl
    | none => exact pick_up may r

/-- what stands between the bytes c -/
def pieces (c : UInt8) : List UInt8 → List (List UInt8)
  | [] => [[]]
  | x :: s => if x = c then [] :: pieces c s else match pieces c s with
    | [] => [[x]]
    | p :: r => (x :: p) :: r
theorem pieces_ne (c : UInt8) (s : List UInt8) : pieces c s ≠ [] := by
  cases s with
  | nil => simp [pieces]
  | cons x s =>
    rw [pieces]
    split
    · simp
    · split <;> simp
theorem pieces_cut (c : UInt8) (b : List UInt8) : ∀ a : List UInt8, c ∉ a → pieces c (a ++ c :: b) = a :: pieces c b
  | [], _ => by simp [pieces]
  | x :: a, h => by
    simp only [List.mem_cons, not_or] at h
    rw [List.cons_append, pieces, if_neg (fun e => h.1 e.symm), pieces_cut c b a h.2]
theorem pieces_one (c : UInt8) : ∀ a : List UInt8, c ∉ a → pieces c a = [a]
  | [], _ => rfl
  | x :: a, h => by
    simp only [List.mem_cons, not_or] at h
    rw [pieces, if_neg (fun e => h.1 e.symm), pieces_one c a h.2]
theorem pieces_len (c : UInt8) (s : List UInt8) : (pieces c s).length ≤ s.length + 1 := by
  induction s with
  | nil => simp [pieces]
  | cons x s ih =>
    rw [pieces]
    split
    · simp; omega
    · cases h : pieces c s with
      | nil => simp
      | cons p r => rw [h] at ih; simp at ih ⊢; omega
theorem pieces_map (c : UInt8) (f : UInt8 → UInt8) (hf : ∀ x, f x = c ↔ x = c) : ∀ s, pieces c (s.map f) = (pieces c s).map (List.map f)
  | [] => rfl
  | x :: s => by
    rw [List.map_cons, pieces, pieces, pieces_map c f hf s]
    by_cases h : x = c
    · rw [if_pos h, if_pos ((hf x).2 h)]; rfl
    · rw [if_neg h, if_neg (fun e => h ((hf x).1 e))]
      cases pieces c s <;> rfl
theorem pieces_join (c : UInt8) : ∀ (l : List (List UInt8)), l ≠ [] → (∀ x ∈ l, c ∉ x) → pieces c (Lib.join l [c]) = l
  | [], h, _ => absurd rfl h
  | [x], _, h => by rw [Lib.join_one]; exact pieces_one c x (h x (by simp))
  | x :: y :: r, _, h => by
    have e : Lib.join (x :: y :: r) [c] = x ++ c :: Lib.join (y :: r) [c] := by
      rw [Lib.join_cons, Lib.join_cons, Lib.joinTail]
      simp [Lib.joinTail]
    rw [e, pieces_cut c _ x (h x (by simp)), pieces_join c (y :: r) (by simp) (fun z hz => h z (by simp [hz]))]
theorem join_mem (c : UInt8) : ∀ l : List (List UInt8), c ∈ Lib.join l [] ↔ ∃ x ∈ l, c ∈ x
  | [] => by simp [Lib.join_nil]
  | x :: r => by
    rw [Lib.join_cons, Lib.joinTail]
    simp
theorem cut_at (c : UInt8) (s : List UInt8) : (c ∉ s ∧ Lib.indexByte s c = -1) ∨ ∃ a b, s = a ++ c :: b ∧ c ∉ a ∧ Lib.indexByte s c = (a.length : Int) := by
  induction s with
  | nil => exact .inl ⟨by simp, rfl⟩
  | cons x s ih =>
    by_cases hx : x = c
    · subst hx
      exact .inr ⟨[], s, rfl, by simp, by simp [Lib.indexByte]⟩
    · have hx2 : (x == c) = false := beq_false_of_ne hx
      rcases ih with ⟨h1, h2⟩ | ⟨a, b, h1, h2, h3⟩
      · refine .inl ⟨?_, ?_⟩
        · simp only [List.mem_cons, not_or]; exact ⟨fun e => hx e.symm, h1⟩
        · simp [Lib.indexByte, hx2, h2]
      · refine .inr ⟨x :: a, b, by rw [h1]; rfl, ?_, ?_⟩
        · simp only [List.mem_cons, not_or]; exact ⟨fun e => hx e.symm, h2⟩
        · have hne : ((a.length : Int) == -1) = false := by apply beq_false_of_ne; omega
          simp only [Lib.indexByte, hx2, h3, hne, List.length_cons, if_false, Bool.false_eq_true]
          omega
end Go.Proofs.YtneiiinheimglaaGreatDoor.C
