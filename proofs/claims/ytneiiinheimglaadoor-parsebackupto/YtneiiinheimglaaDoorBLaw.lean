/-
  Laws of the parser as a plain function: what is left is right, and so is what is told; 24 ends all; no program, no condition.
-/
import Derived.Test.YtneiiinheimglaaDoorBPlain
namespace Go.Proofs.YtneiiinheimglaaDoor.B
open Go.Lib Go.Proofs.YtneiiinheimglaaDoor

/-- which letters stand where in the table -/
def specB (st k w : Nat) : Bool :=
  decide (w = 46) || decide ((w = 88 ∨ w = 68) ∧ st ≠ 0) || decide ((w = 69 ∧ k = 1 ∧ st ≤ 6)) || decide ((w = 67 ∧ (k = 2 ∨ k = 3) ∧ st ≤ 6)) || decide ((w = 80 ∧ st = 0 ∧ 4 ≤ k ∧ k ≠ 13)) || decide ((w = 73 ∧ k = 4 ∧ (st = 1 ∨ st = 3 ∨ st = 4))) || decide ((w = 74 ∧ k = 4 ∧ (st = 2 ∨ st = 5))) || decide ((w = 65 ∧ k = 6 ∧ (st = 3 ∨ st = 4))) || decide ((w = 77 ∧ k = 7 ∧ st = 3)) || decide ((w = 71 ∧ 5 ≤ k ∧ k ≤ 7 ∧ (st = 3 ∨ st = 4 ∨ st = 5))) || decide ((w = 83 ∧ st = 1 ∧ k = 8)) || decide ((w = 79 ∧ st = 1 ∧ k = 9)) || decide ((w = 84 ∧ st = 1 ∧ k = 11)) || decide ((w = 90 ∧ k = 1 ∧ (st = 7 ∨ st = 9))) || decide ((w = 87 ∧ st = 7 ∧ 4 ≤ k ∧ k ≠ 13)) || decide ((w = 89 ∧ (st = 7 ∧ k = 2 ∨ (st = 8 ∨ st = 10) ∧ k = 10))) || decide ((w = 70 ∧ (st = 1 ∧ (k = 5 ∨ k = 6 ∨ k = 7 ∨ k = 10 ∨ k = 12) ∨ st = 2 ∧ 5 ≤ k ∧ k ≤ 12 ∨ 3 ≤ st ∧ st ≤ 5 ∧ 8 ≤ k ∧ k ≤ 12))) || decide ((w = 82 ∧ (st = 8 ∨ st = 10) ∧ k ≠ 10))
def spec (st k w : Nat) : Prop :=
  (w = 46) ∨ ((w = 88 ∨ w = 68) ∧ st ≠ 0) ∨ ((w = 69 ∧ k = 1 ∧ st ≤ 6)) ∨ ((w = 67 ∧ (k = 2 ∨ k = 3) ∧ st ≤ 6)) ∨ ((w = 80 ∧ st = 0 ∧ 4 ≤ k ∧ k ≠ 13)) ∨ ((w = 73 ∧ k = 4 ∧ (st = 1 ∨ st = 3 ∨ st = 4))) ∨ ((w = 74 ∧ k = 4 ∧ (st = 2 ∨ st = 5))) ∨ ((w = 65 ∧ k = 6 ∧ (st = 3 ∨ st = 4))) ∨ ((w = 77 ∧ k = 7 ∧ st = 3)) ∨ ((w = 71 ∧ 5 ≤ k ∧ k ≤ 7 ∧ (st = 3 ∨ st = 4 ∨ st = 5))) ∨ ((w = 83 ∧ st = 1 ∧ k = 8)) ∨ ((w = 79 ∧ st = 1 ∧ k = 9)) ∨ ((w = 84 ∧ st = 1 ∧ k = 11)) ∨ ((w = 90 ∧ k = 1 ∧ (st = 7 ∨ st = 9))) ∨ ((w = 87 ∧ st = 7 ∧ 4 ≤ k ∧ k ≠ 13)) ∨ ((w = 89 ∧ (st = 7 ∧ k = 2 ∨ (st = 8 ∨ st = 10) ∧ k = 10))) ∨ ((w = 70 ∧ (st = 1 ∧ (k = 5 ∨ k = 6 ∨ k = 7 ∨ k = 10 ∨ k = 12) ∨ st = 2 ∧ 5 ≤ k ∧ k ≤ 12 ∨ 3 ≤ st ∧ st ≤ 5 ∧ 8 ≤ k ∧ k ≤ 12))) ∨ ((w = 82 ∧ (st = 8 ∨ st = 10) ∧ k ≠ 10))
theorem spec_of {st k w : Nat} (h : specB st k w = true) : spec st k w := by
  unfold specB at h
  unfold spec
  simp only [Bool.or_eq_true, decide_eq_true_eq, or_assoc] at h
  exact h
theorem letters (st k : Nat) (h : st ≤ 10) (hk : k < 15) : spec st k (what st k) := by
  have all : ∀ st, st < 11 → ∀ k, k < 15 → specB st k (what st k) = true := by decide +kernel
  exact spec_of (all st (by omega) k hk)
theorem sg_nat {c : Int} (h0 : 0 ≤ c) (h : c < 256) : ((sg c).toNat : Int) = c := by
  unfold sg
  simp only [Nat.toUInt8, UInt8.toNat_ofNat']
  omega
theorem mid_sg {c : Int} (h : 32 ≤ c ∧ c ≤ 47) : mid (sg c) := by
  have := sg_nat (c := c) (by omega) (by omega)
  unfold mid
  omega
theorem okB_sg {c : Int} (h : c ≠ 58) (h2 : 48 ≤ c ∧ c ≤ 59) : Z.okB (sg c) = true := by
  have e := sg_nat (c := c) (by omega) (by omega)
  unfold Z.okB
  by_cases h3 : c = 59
  · subst h3; rfl
  · have hd : Z.dig (sg c) = true := Z.dig_iff.2 ⟨by omega, by omega⟩
    rw [hd]; rfl

theorem does_right {p : Ps} (hp : right p) {c : Int} (hw : what p.st (cls c) ≠ 82) : right (does p c (what p.st (cls c))).1 := by
  have hl := letters p.st (cls c) hp.st (cls_lt c)
  have hc := cls_cases c
  unfold spec at hl
  generalize what p.st (cls c) = w at *
  rcases hl with rfl | ⟨rfl | rfl, h⟩ | ⟨rfl, h⟩ | ⟨rfl, h⟩ | ⟨rfl, h⟩ | ⟨rfl, h⟩ | ⟨rfl, h⟩ | ⟨rfl, h⟩ | ⟨rfl, h⟩ | ⟨rfl, h⟩ | ⟨rfl, h⟩ | ⟨rfl, h⟩ | ⟨rfl, h⟩ | ⟨rfl, h⟩ | ⟨rfl, h⟩ | ⟨rfl, h⟩ | ⟨rfl, h⟩ | ⟨rfl, h⟩
  · exact hp
  · exact right_p0
  · exact right_p0
  · exact right_at 1 (by decide) (by decide)
  · exact hp
  · exact hp
  · -- I
    have hi : p.inter = [] := hp.inter.2 (by omega)
    have ht : p.text = [] := hp.text.elim id (fun h2 => by omega)
    have ha : p.args = [] ∨ p.st = 4 := hp.args.elim .inl (fun h2 => by rcases h2 with h2 | h2; exact .inr h2; omega)
    have hm : p.mark = 0 ∨ 60 ≤ p.mark ∧ p.mark ≤ 63 ∧ p.st = 4 := hp.mark.elim .inl (fun h2 => .inr (by omega))
    have hmid := mid_sg (c := c) (by omega)
    show right ⟨if p.st = 1 then 2 else 5, p.mark, [sg c], p.args, p.text⟩
    by_cases h1 : p.st = 1
    · rw [if_pos h1]
      have ha1 : p.args = [] := ha.elim id (fun h2 => by omega)
      refine ⟨by show 2 ≤ 10; decide, .inl (hm.elim id (fun h2 => by omega)), by show 1 ≤ 3; decide, ⟨fun h => (by cases h), fun h => absurd (.inl rfl) h⟩, hp.alen, .inl ha1, hp.tlen, .inl ht, fun b hb => ?_, hp.signs⟩
      rw [List.mem_singleton.1 hb]; exact hmid
    · rw [if_neg h1]
      refine ⟨by show 5 ≤ 10; decide, hm.elim .inl (fun h2 => .inr ⟨h2.1, h2.2.1, .inr rfl⟩), by show 1 ≤ 3; decide, ⟨fun h => (by cases h), fun h => absurd (.inr rfl) h⟩, hp.alen, .inr (.inr rfl), hp.tlen, .inl ht, fun b hb => ?_, hp.signs⟩
      rw [List.mem_singleton.1 hb]; exact hmid
  · -- J
    have hmid := mid_sg (c := c) (by omega)
    show right (if p.inter.length < 3 then ⟨p.st, p.mark, p.inter ++ [sg c], p.args, p.text⟩ else p)
    split
    · rename_i h3
      refine ⟨hp.st, hp.mark, by rw [List.length_append]; simp; omega, ⟨fun h => by simp at h, fun h2 => absurd h.2 h2⟩, hp.alen, hp.args, hp.tlen, hp.text, fun b hb => ?_, hp.signs⟩
      rcases List.mem_append.1 hb with h4 | h4
      · exact hp.mids b h4
      · rw [List.mem_singleton.1 h4]; exact hmid
    · exact hp
  · -- A
    have hi : p.inter = [] := hp.inter.2 (by omega)
    have ht : p.text = [] := hp.text.elim id (fun h2 => by omega)
    have h58 : c ≠ 58 := fun e => by rw [e] at h; exact absurd h.1 (by decide)
    have h48 : 48 ≤ c ∧ c ≤ 59 := by omega
    have hok := okB_sg (c := c) h58 h48
    refine ⟨by show 4 ≤ 10; decide, hp.mark.elim .inl (fun h2 => .inr ⟨h2.1, h2.2.1, .inl rfl⟩), hp.ilen, ⟨fun _ => by show ¬ (4 = 2 ∨ 4 = 5); decide, fun _ => hi⟩, ?_, .inr (.inl rfl), hp.tlen, .inl ht, hp.mids, ?_⟩
    · show (if p.args.length < 100 then p.args ++ [sg c] else p.args).length ≤ 100
      split
      · rw [List.length_append]; simp; omega
      · exact hp.alen
    · show ∀ b ∈ (if p.args.length < 100 then p.args ++ [sg c] else p.args), Z.okB b = true
      split
      · intro b hb
        rcases List.mem_append.1 hb with h4 | h4
        · exact hp.signs b h4
        · rw [List.mem_singleton.1 h4]; exact hok
      · exact hp.signs
  · -- M
    refine ⟨by show 4 ≤ 10; decide, .inr ⟨by show 60 ≤ c; omega, by show c ≤ 63; omega, .inl rfl⟩, Nat.zero_le _, ⟨fun _ => by show ¬ (4 = 2 ∨ 4 = 5); decide, fun _ => rfl⟩, Nat.zero_le _, .inl rfl, Nat.zero_le _, .inl rfl, fun b hb => (by cases hb), fun b hb => (by cases hb)⟩
  · exact right_at 6 (by decide) (by decide)
  · exact right_at 3 (by decide) (by decide)
  · exact right_at 7 (by decide) (by decide)
  · exact right_at 9 (by decide) (by decide)
  · -- Z
    have hi : p.inter = [] := hp.inter.2 (by omega)
    have ha : p.args = [] := hp.args.elim id (fun h2 => by omega)
    have hm : p.mark = 0 := hp.mark.elim id (fun h2 => by omega)
    have ht : p.text = [] ∨ p.st = 7 := hp.text.elim .inl (fun h2 => .inr (by omega))
    refine ⟨by show p.st + 1 ≤ 10; omega, .inl hm, hp.ilen, ⟨fun _ => by show ¬ (p.st + 1 = 2 ∨ p.st + 1 = 5); omega, fun _ => hi⟩, hp.alen, .inl ha, hp.tlen, ht.elim .inl (fun h2 => .inr (.inr (by show p.st + 1 = 8; omega))), hp.mids, hp.signs⟩
  · -- W
    show right (if p.text.length + (encodeRune c).length ≤ 256 then ⟨p.st, p.mark, p.inter, p.args, p.text ++ encodeRune c⟩ else p)
    split
    · rename_i h3
      exact ⟨hp.st, hp.mark, hp.ilen, hp.inter, hp.alen, hp.args, by rw [List.length_append]; exact h3, .inr (.inl h.1), hp.mids, hp.signs⟩
    · exact hp
  · exact right_p0
  · exact right_p0
  · exact absurd rfl hw

theorem what_one (k : Nat) (hk : k < 15) : what 1 k ≠ 82 := by
  have h := letters 1 k (by decide) hk
  unfold spec at h
  omega
theorem step_right {p : Ps} (hp : right p) (c : Int) : right (step p c).1 := by
  unfold step
  split
  · exact hp
  · split
    · exact does_right (p := at' 1) (right_at 1 (by decide) (by decide)) (what_one _ (cls_lt c))
    · rename_i h
      exact does_right hp h
theorem run_right : ∀ (l : List Int) {p : Ps}, right p → right (run p l).1
  | [], _, h => h
  | c :: r, _, h => run_right r (step_right h c)
theorem ground {p : Ps} (hp : right p) (h : p.st = 0) : p = p0 := by
  have hi : p.inter = [] := hp.inter.2 (by omega)
  have ha : p.args = [] := hp.args.elim id (fun h2 => by omega)
  have hm : p.mark = 0 := hp.mark.elim id (fun h2 => by omega)
  have ht : p.text = [] := hp.text.elim id (fun h2 => by omega)
  obtain ⟨a, b, c, d, e⟩ := p
  dsimp only at *
  subst h hi ha hm ht
  rfl
/-- behind 24 all is as at first -/
theorem heals {p : Ps} (hp : right p) : (step p 24).1 = p0 := by
  have hst := hp.st
  have all : ∀ st, st < 11 → (what st 0 = 46 ∧ st = 0) ∨ what st 0 = 88 ∨ what st 0 = 68 ∨ what st 0 = 82 := by decide +kernel
  have hc : cls 24 = 0 := rfl
  unfold step
  rw [if_neg (by decide), hc]
  rcases all p.st (by omega) with ⟨h, h0⟩ | h | h | h
  · rw [h, if_neg (by decide)]
    exact ground hp h0
  · rw [h, if_neg (by decide)]; rfl
  · rw [h, if_neg (by decide)]; rfl
  · rw [h, if_pos rfl]; rfl
end Go.Proofs.YtneiiinheimglaaDoor.B
