/-
  The number of a piece as the document's answer reckons it is the plain one; no program, no condition.
-/
import Derived.Test.YtneiiinheimglaaGreatDoorZPlain
import Derived.Lib.TrimByte
import Derived.Lib.SplitLaws
import Derived.Lib.IndexBytes
namespace Go.Proofs.YtneiiinheimglaaGreatDoor.Z
open Go.RowKit Go.Lib Go.Proofs.YtneiiinheimglaaGreatDoor Go.Proofs.YtneiiinheimglaaGreatDoor.W Go.Proofs.YtneiiinheimglaaGreatDoor.C

def val (n : Int) (p : List UInt8) : Int := p.foldl (fun n b => 10 * n + (b.toNat : Int) - 48) n
def nref (p : List UInt8) : Int := if p = [] then -1 else if 5 < (trimLeftB p 48).length then 16383 else min (val 0 (trimLeftB p 48)) 16383

theorem val_ge : ∀ (p : List UInt8) (n : Int), 0 ≤ n → (∀ b ∈ p, dig b = true) → n ≤ val n p
  | [], n, _, _ => Int.le_refl _
  | b :: p, n, h0, h => by
    have hb := dig_iff.1 (h b (by simp))
    have := val_ge p (10 * n + (b.toNat : Int) - 48) (by omega) (fun x hx => h x (by simp [hx]))
    show n ≤ val (10 * n + (b.toNat : Int) - 48) p
    omega
theorem num_val : ∀ (p : List UInt8) (n : Int), 0 ≤ n → (∀ b ∈ p, dig b = true) → num (min n 16383) p = min (val n p) 16383
  | [], n, _, _ => rfl
  | b :: p, n, h0, h => by
    have hb := dig_iff.1 (h b (by simp))
    have ih := num_val p (10 * n + (b.toNat : Int) - 48) (by omega) (fun x hx => h x (by simp [hx]))
    show num (wd (min n 16383) ((b.toNat : Int) - 48)) p = min (val (10 * n + (b.toNat : Int) - 48) p) 16383
    rw [← ih]
    congr 1
    unfold wd
    omega
theorem val_six (n : Int) (h1 : 1 ≤ n) : ∀ p : List UInt8, 5 ≤ p.length → (∀ b ∈ p, dig b = true) → 100000 ≤ val n p
  | a :: b :: c :: d :: e :: r, _, h => by
    have ha := dig_iff.1 (h a (by simp))
    have hb := dig_iff.1 (h b (by simp))
    have hc := dig_iff.1 (h c (by simp))
    have hd := dig_iff.1 (h d (by simp))
    have he := dig_iff.1 (h e (by simp))
    have := val_ge r (10 * (10 * (10 * (10 * (10 * n + (a.toNat : Int) - 48) + (b.toNat : Int) - 48) + (c.toNat : Int) - 48) + (d.toNat : Int) - 48) + (e.toNat : Int) - 48) (by omega) (fun x hx => h x (by simp [hx]))
    show 100000 ≤ val (10 * (10 * (10 * (10 * (10 * n + (a.toNat : Int) - 48) + (b.toNat : Int) - 48) + (c.toNat : Int) - 48) + (d.toNat : Int) - 48) + (e.toNat : Int) - 48) r
    omega
  | [], h, _ => by simp at h
  | [_], h, _ => by simp at h
  | [_, _], h, _ => by simp at h
  | [_, _, _], h, _ => by simp at h
  | [_, _, _, _], h, _ => by simp at h
theorem val_high : ∀ (p : List UInt8) (n : Int), 0 ≤ n → (∀ b ∈ p, dig b = true) → val n p < (n + 1) * 10 ^ p.length
  | [], n, _, _ => by simp [val]; omega
  | b :: p, n, h0, h => by
    have hb := dig_iff.1 (h b (by simp))
    have ih := val_high p (10 * n + (b.toNat : Int) - 48) (by omega) (fun x hx => h x (by simp [hx]))
    show val (10 * n + (b.toNat : Int) - 48) p < (n + 1) * 10 ^ (p.length + 1)
    have h2 : (n + 1) * 10 ^ (p.length + 1) = (10 * (n + 1)) * 10 ^ p.length := by rw [Int.pow_succ, Int.mul_comm 10 (n + 1), Int.mul_assoc, Int.mul_comm (10 ^ p.length) 10]
    rw [h2]
    refine Int.lt_of_lt_of_le ih (Int.mul_le_mul_of_nonneg_right (by omega) ?_)
    exact Int.pow_nonneg (by decide)
theorem val_five (p : List UInt8) (h5 : p.length ≤ 5) (h : ∀ b ∈ p, dig b = true) : 0 ≤ val 0 p ∧ val 0 p ≤ 99999 := by
  have h1 := val_ge p 0 (by decide) h
  have h2 := val_high p 0 (by decide) h
  refine ⟨h1, ?_⟩
  rcases (by omega : p.length = 0 ∨ p.length = 1 ∨ p.length = 2 ∨ p.length = 3 ∨ p.length = 4 ∨ p.length = 5) with e | e | e | e | e | e <;> rw [e] at h2 <;> simp at h2 <;> omega
/-- what stands behind noughts -/
theorem trim_form : ∀ p : List UInt8, (∀ b ∈ p, dig b = true) → num 0 p = num 0 (trimLeftB p 48) ∧ (trimLeftB p 48 = [] ∨ ∃ b r, trimLeftB p 48 = b :: r ∧ b ≠ 48) ∧ ∀ b ∈ trimLeftB p 48, dig b = true
  | [], _ => ⟨rfl, .inl rfl, fun b hb => by cases hb⟩
  | b :: p, h => by
    by_cases hb : b = 48
    · subst hb
      have e : trimLeftB (48 :: p) 48 = trimLeftB p 48 := rfl
      rw [e]
      have ih := trim_form p (fun x hx => h x (by simp [hx]))
      exact ⟨ih.1, ih.2⟩
    · have e : trimLeftB (b :: p) 48 = b :: p := by
        unfold trimLeftB
        rw [List.dropWhile_cons, if_neg (by simpa using hb)]
      rw [e]
      exact ⟨rfl, .inr ⟨b, p, rfl, hb⟩, h⟩
theorem nref_num (p : List UInt8) (h : ∀ b ∈ p, dig b = true) : num (-1) p = nref p := by
  unfold nref
  cases p with
  | nil => rfl
  | cons b r =>
    rw [if_neg (by simp)]
    have e : num (-1) (b :: r) = num 0 (b :: r) := rfl
    obtain ⟨h1, h2, h3⟩ := trim_form (b :: r) h
    rw [e, h1]
    have h4 := num_val (trimLeftB (b :: r) 48) 0 (by decide) h3
    rw [show min (0 : Int) 16383 = 0 from rfl] at h4
    rw [h4]
    split
    · rename_i h5
      rcases h2 with h2 | ⟨c, q, h2, hc⟩
      · rw [h2] at h5; simp at h5
      · rw [h2] at h5 h3 ⊢
        have hc1 := dig_iff.1 (h3 c (by simp))
        have hc2 : c.toNat ≠ 48 := fun e => hc (UInt8.toNat_inj.1 e)
        have := val_six ((c.toNat : Int) - 48) (by omega) q (by simp at h5; omega) (fun x hx => h3 x (by simp [hx]))
        have e2 : val 0 (c :: q) = val ((c.toNat : Int) - 48) q := by
          show val (10 * 0 + (c.toNat : Int) - 48) q = _
          congr 1
          omega
        rw [e2]; omega
    · rfl
theorem splitK_pieces (c : UInt8) : ∀ (k : Nat) (s : List UInt8), s.count c = k → splitK [c] 0 k s = pieces c s
  | 0, s, h => by
    rw [pieces_one c s (List.count_eq_zero.1 h)]
    rfl
  | k + 1, s, h => by
    rcases cut_at c s with ⟨h1, _⟩ | ⟨a, b, h1, h2, h3⟩
    · rw [List.count_eq_zero.2 h1] at h; cases h
    · have hi : index s [c] = (a.length : Int) := by rw [index_one, h3]
      rw [splitK, if_neg (by rw [hi]; simp), hi]
      subst h1
      rw [pieces_cut c b a h2]
      have e1 : (a ++ c :: b).take ((a.length : Int).toNat + 0) = a := by simp
      have e2 : (a ++ c :: b).drop ((a.length : Int).toNat + [c].length) = b := by simp
      rw [e1, e2, splitK_pieces c k b]
      have := h
      rw [List.count_append, List.count_cons, List.count_eq_zero_of_not_mem h2] at this
      simp at this
      exact this
theorem split_pieces (s : List UInt8) (c : UInt8) : (splitB ⟨#[c]⟩ 0 (countB (bs s) ⟨#[c]⟩) (bs s)).map Value.string = (pieces c s).map fun p => .string (bs p) := by
  have h := splitB_data ⟨#[c]⟩ 0 (countB (bs s) ⟨#[c]⟩) (bs s)
  have e : countB (bs s) ⟨#[c]⟩ = s.count c := count_one c s
  rw [e] at h ⊢
  have h2 : ((splitB ⟨#[c]⟩ 0 (s.count c) (bs s)).map fun x => x.data.toList) = pieces c s := h.trans (splitK_pieces c _ s rfl)
  rw [← h2, List.map_map]
  refine List.map_congr_left fun x _ => ?_
  show Value.string x = .string (bs x.data.toList)
  rw [bs_data]
theorem count_pieces (s : List UInt8) (c : UInt8) : countB (bs s) ⟨#[c]⟩ + 1 = (pieces c s).length := by
  have h := congrArg List.length (split_pieces s c)
  rw [List.length_map, List.length_map] at h
  rw [← h]
  exact (splitB_all ⟨#[c]⟩ (Nat.le_refl 1) 0 _ (bs s) rfl).symm
theorem pieces_dig : ∀ s : List UInt8, okS s = true → ∀ p ∈ pieces 59 s, ∀ b ∈ p, dig b = true
  | [], _, p, hp, b, hb => by
    simp only [pieces, List.mem_singleton] at hp
    subst hp; cases hb
  | x :: s, h, p, hp, b, hb => by
    unfold okS at h
    rw [List.all_cons, Bool.and_eq_true] at h
    have ih := pieces_dig s h.2
    rw [pieces] at hp
    split at hp
    · rcases List.mem_cons.1 hp with h1 | h1
      · subst h1; cases hb
      · exact ih p h1 b hb
    · rename_i hx
      have hxd : dig x = true := (okB_cases h.1).elim (fun e => absurd e hx) id
      cases hq : pieces 59 s with
      | nil => exact absurd hq (pieces_ne 59 s)
      | cons q r =>
        rw [hq] at hp ih
        rcases List.mem_cons.1 hp with h1 | h1
        · subst h1
          rcases List.mem_cons.1 hb with h2 | h2
          · rw [h2]; exact hxd
          · exact ih q (by simp) b h2
        · exact ih p (by simp [h1]) b hb
theorem rd_ref (s : List UInt8) (h : okS s = true) : rd s (-1) [] = ((pieces 59 s).map nref).take 32 := by
  rw [rd_map]
  congr 1
  exact List.map_congr_left fun p hp => nref_num p (pieces_dig s h p hp)
end Go.Proofs.YtneiiinheimglaaGreatDoor.Z
