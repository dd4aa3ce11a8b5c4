/-
  Plain laws: how many tokens a stream has, and how many bytes they hold; no condition.
-/
import Derived.Test.YtmcoliblkkploaaDoorWofa
namespace Go.Proofs.YtmcoliblkkploaaDoor

theorem words_small (o : UInt8) (t : Tk) (k : Nat) : ∀ (s d : List UInt8) (n : Nat), words o s d n = .inr (t, k) → n < k ∧ t.data.length + n ≤ d.length + k
  | [], d, n, h => by simp [words] at h
  | [c], d, n, h => by
    rw [words] at h
    split at h <;> cases h
  | c :: c2 :: r, d, n, h => by
    rw [words] at h
    by_cases hc : c.toNat = 255
    · rw [if_pos hc] at h
      by_cases h1 : c2.toNat = 240
      · rw [if_pos h1] at h
        cases h
        unfold endTok
        split <;> simp <;> omega
      rw [if_neg h1] at h
      by_cases h2 : c2.toNat = 255
      · rw [if_pos h2] at h
        have := words_small o t k r (d ++ [c2]) (n + 2) h
        simp at this
        omega
      · rw [if_neg h2] at h
        cases h
        simp; omega
    · rw [if_neg hc] at h
      have := words_small o t k (c2 :: r) (d ++ [c]) (n + 1) h
      simp at this
      omega

theorem token_small (s : List UInt8) (t : Tk) (k : Nat) (h : token s = .inr (t, k)) : 1 ≤ k ∧ t.data.length ≤ k := by
  match s, h with
  | [], h => simp [token] at h
  | [c], h =>
    simp only [token] at h
    by_cases hc : c.toNat ≠ 255
    · rw [if_pos hc] at h; cases h; simp [D]
    · rw [if_neg hc] at h; cases h
  | [c, c2], h =>
    simp only [token] at h
    by_cases hc : c.toNat ≠ 255
    · rw [if_pos hc] at h; cases h; simp [D]
    rw [if_neg hc] at h
    by_cases h1 : c2.toNat = 255
    · rw [if_pos h1] at h; cases h; simp [D]
    rw [if_neg h1] at h
    by_cases h2 : c2.toNat < 240
    · rw [if_pos h2] at h; cases h; simp
    rw [if_neg h2] at h
    by_cases h3 : c2.toNat < 250
    · rw [if_pos h3] at h; cases h; simp
    rw [if_neg h3] at h
    cases h
  | c :: c2 :: o :: s3, h =>
    simp only [token] at h
    by_cases hc : c.toNat ≠ 255
    · rw [if_pos hc] at h; cases h; simp [D]
    rw [if_neg hc] at h
    by_cases h1 : c2.toNat = 255
    · rw [if_pos h1] at h; cases h; simp [D]
    rw [if_neg h1] at h
    by_cases h2 : c2.toNat < 240
    · rw [if_pos h2] at h; cases h; simp
    rw [if_neg h2] at h
    by_cases h3 : c2.toNat < 250
    · rw [if_pos h3] at h; cases h; simp
    rw [if_neg h3] at h
    by_cases h4 : 250 < c2.toNat
    · rw [if_pos h4] at h; cases h; simp
    rw [if_neg h4] at h
    cases hw : words o s3 [] 3 with
    | inl p => rw [hw] at h; cases h
    | inr p =>
      rw [hw] at h
      cases h
      have := words_small o t k s3 [] 3 hw
      simp at this
      omega

theorem stream_small : ∀ (f : Nat) (s : List UInt8), (stream f s).1.length ≤ (stream f s).2.1 ∧ dataSum (stream f s).1 ≤ (stream f s).2.1
  | 0, s => by simp [stream, dataSum]
  | f + 1, s => by
    cases ht : token s with
    | inl x =>
      have e : stream (f + 1) s = ([], 0, x) := by rw [stream, ht]
      rw [e]
      simp [dataSum]
    | inr p =>
      obtain ⟨t, k⟩ := p
      have e : stream (f + 1) s = (t :: (stream f (s.drop k)).1, k + (stream f (s.drop k)).2.1, (stream f (s.drop k)).2.2) := by rw [stream, ht]
      have ih := stream_small f (s.drop k)
      have := token_small s t k ht
      rw [e]
      simp only [List.length_cons]
      have hd : dataSum (t :: (stream f (s.drop k)).1) = t.data.length + dataSum (stream f (s.drop k)).1 := by simp [dataSum]
      rw [hd]
      omega

theorem esc_len (l : List UInt8) : (esc l).length ≤ 2 * l.length := by
  induction l with
  | nil => simp [esc]
  | cons b l ih =>
    rw [esc]
    split <;> simp only [List.length_cons] <;> omega

theorem unread_len (x : Wr) (h : x.buf.length ≤ 4096) : (unread x).length ≤ 10000 := by
  unfold unread
  repeat' split
  all_goals simp only [List.length_cons, List.length_nil, List.length_append]
  all_goals first
    | omega
    | (have h1 := esc_len (List.replicate 4097 120); rw [List.length_replicate] at h1; omega)
    | (have h1 := esc_len x.buf; omega)
end Go.Proofs.YtmcoliblkkploaaDoor
