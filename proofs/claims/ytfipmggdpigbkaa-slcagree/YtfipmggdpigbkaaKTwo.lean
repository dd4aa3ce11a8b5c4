/-
  Two ends that say their keys: function by function; after at most three sayings they hold the same. No condition but that they are right, of 38 bytes.
-/
import Derived.Test.YtfipmggdpigbkaaKMeet
namespace Go.Proofs.Ytfipmggdpigbkaa.K
open Go.RowKit Go.Proofs.Ytfipmggdpigbkaa Go.Proofs.Ytfipmggdpigbkaa.W Go.Proofs.Ytfipmggdpigbkaa.Q

/-- what one function's words do -/
def step (o y : UInt8) : Option (UInt8 × UInt8) → UInt8 × UInt8 × Option (UInt8 × UInt8)
  | none => (o, y, none)
  | some p => say o y p.1 p.2
/-- words of some functions -/
def enc (L : List Nat) (σ : Nat → Option (UInt8 × UInt8)) : List UInt8 := L.flatMap fun f => outB (UInt8.ofNat f) (σ f)
theorem enc_cons (f : Nat) (L : List Nat) (σ : Nat → Option (UInt8 × UInt8)) : enc (f :: L) σ = outB (UInt8.ofNat f) (σ f) ++ enc L σ := rfl
theorem enc_same {L : List Nat} {σ τ : Nat → Option (UInt8 × UInt8)} (h : ∀ f ∈ L, σ f = τ f) : enc L σ = enc L τ := by
  induction L with
  | nil => rfl
  | cons f L ih => rw [enc_cons, enc_cons, h f (by simp), ih (fun g hg => h g (by simp [hg]))]
theorem enc_nil {L : List Nat} {σ : Nat → Option (UInt8 × UInt8)} : enc L σ = [] ↔ ∀ f ∈ L, σ f = none := by
  induction L with
  | nil => simp [enc]
  | cons f L ih =>
    rw [enc_cons, List.append_eq_nil_iff, ih]
    constructor
    · rintro ⟨h1, h2⟩ g hg
      rcases List.mem_cons.1 hg with rfl | hg
      · cases h : σ g with
        | none => rfl
        | some p => rw [h] at h1; simp [outB] at h1
      · exact h2 g hg
    · intro h
      exact ⟨by rw [h f (by simp)]; rfl, fun g hg => h g (by simp [hg])⟩
def Fn (L : List Nat) : Prop := ∀ f ∈ L, 1 ≤ f ∧ f ≤ 18
theorem u8_nat {f : Nat} (h : f ≤ 18) : (UInt8.ofNat f).toNat = f := by rw [UInt8.toNat_ofNat']; omega
theorem take1_fn (k : List UInt8) {f : Nat} (h1 : 1 ≤ f) (h2 : f ≤ 18) (g c : UInt8) : take1 k (UInt8.ofNat f) g c = (put k f (say (lv k f) (ch k f) g c).1 (say (lv k f) (ch k f) g c).2.1, outB (UInt8.ofNat f) (say (lv k f) (ch k f) g c).2.2) := by
  unfold take1
  rw [if_pos (show isF (UInt8.ofNat f) = true by unfold isF; rw [u8_nat h2]; exact decide_eq_true ⟨h1, h2⟩), u8_nat h2]

/-- each function by itself -/
theorem run_enc : ∀ (L : List Nat) (k : List UInt8) (σ : Nat → Option (UInt8 × UInt8)), k.length = 38 → Fn L → L.Nodup →
    (run k (enc L σ)).2 = enc L (fun f => (step (lv k f) (ch k f) (σ f)).2.2) ∧ ∀ f, f < 19 → lv (run k (enc L σ)).1 f = (if f ∈ L then (step (lv k f) (ch k f) (σ f)).1 else lv k f) ∧ ch (run k (enc L σ)).1 f = (if f ∈ L then (step (lv k f) (ch k f) (σ f)).2.1 else ch k f)
  | [], k, σ, _, _, _ => by
    rw [show enc [] σ = [] from rfl, run_nil]
    exact ⟨rfl, fun f _ => by simp⟩
  | f0 :: L, k, σ, hk, hF, hN => by
    obtain ⟨n1, n2⟩ := List.nodup_cons.1 hN
    obtain ⟨g1, g2⟩ := hF f0 (by simp)
    have hFL : Fn L := fun g hg => hF g (by simp [hg])
    rw [enc_cons]
    cases h0 : σ f0 with
    | none =>
      obtain ⟨i1, i2⟩ := run_enc L k σ hk hFL n2
      rw [show outB (UInt8.ofNat f0) none = [] from rfl, List.nil_append]
      refine ⟨?_, fun f hf => ?_⟩
      · rw [i1, enc_cons, h0]; rfl
      · obtain ⟨j1, j2⟩ := i2 f hf
        rw [j1, j2]
        by_cases e : f = f0
        · subst e
          rw [if_neg n1, if_neg n1, if_pos (by simp), if_pos (by simp), h0]
          exact ⟨rfl, rfl⟩
        · simp only [List.mem_cons, e, false_or]
          exact ⟨trivial, trivial⟩
    | some p =>
      obtain ⟨g, c⟩ := p
      have hk1 : (put k f0 (say (lv k f0) (ch k f0) g c).1 (say (lv k f0) (ch k f0) g c).2.1).length = 38 := by rw [put_length, hk]
      obtain ⟨i1, i2⟩ := run_enc L (put k f0 (say (lv k f0) (ch k f0) g c).1 (say (lv k f0) (ch k f0) g c).2.1) σ hk1 hFL n2
      have hsame : ∀ f, f < 19 → f ≠ f0 → lv (put k f0 (say (lv k f0) (ch k f0) g c).1 (say (lv k f0) (ch k f0) g c).2.1) f = lv k f ∧ ch (put k f0 (say (lv k f0) (ch k f0) g c).1 (say (lv k f0) (ch k f0) g c).2.1) f = ch k f := fun f hf e => by
        rw [lv_put k hk _ _ _ _ (by omega) hf, ch_put k hk _ _ _ _ (by omega) hf, if_neg e, if_neg e]
        exact ⟨rfl, rfl⟩
      rw [show outB (UInt8.ofNat f0) (some (g, c)) = [UInt8.ofNat f0, g, c] from rfl, List.cons_append, List.cons_append, List.cons_append, List.nil_append, run_cons, take1_fn k g1 g2]
      dsimp only
      refine ⟨?_, fun f hf => ?_⟩
      · rw [i1, enc_cons, h0]
        refine congrArg (fun z => outB (UInt8.ofNat f0) (say (lv k f0) (ch k f0) g c).2.2 ++ z) (enc_same fun f hf => ?_)
        have hb := hFL f hf
        obtain ⟨e1, e2⟩ := hsame f (by omega) (fun e => n1 (e ▸ hf))
        rw [e1, e2]
      · obtain ⟨j1, j2⟩ := i2 f hf
        rw [j1, j2]
        by_cases e : f = f0
        · subst e
          rw [if_neg n1, if_neg n1, if_pos (by simp), if_pos (by simp), h0, lv_put k hk _ _ _ _ (by omega) hf, ch_put k hk _ _ _ _ (by omega) hf, if_pos rfl, if_pos rfl]
          exact ⟨rfl, rfl⟩
        · obtain ⟨e1, e2⟩ := hsame f hf e
          simp only [List.mem_cons, e, false_or, e1, e2]
          exact ⟨trivial, trivial⟩

/-- all functions -/
def FL : List Nat := (List.range 18).map (· + 1)
theorem FL_fn : Fn FL := fun f hf => by
  obtain ⟨g, hg, rfl⟩ := List.mem_map.1 hf
  have := List.mem_range.1 hg
  omega
theorem FL_mem {f : Nat} (h1 : 1 ≤ f) (h2 : f ≤ 18) : f ∈ FL := List.mem_map.2 ⟨f - 1, List.mem_range.2 (by omega), by omega⟩
theorem FL_nodup : FL.Nodup := by decide
theorem text_enc (a : List UInt8) : text a = enc FL (fun f => some (lv a f, ch a f)) := by
  unfold text enc FL
  rw [List.flatMap_map]
  rfl

/-- three sayings of one function -/
theorem three (la ca lb cb : UInt8) (ha : la ≤ 2) (hb : lb ≤ 2) :
    let r1 := step lb cb (some (la, ca))
    let r2 := step la ca r1.2.2
    let r3 := step r1.1 r1.2.1 r2.2.2
    r3.2.2 = none ∧ r2.1 = r3.1 ∧ r2.2.1 = r3.2.1 ∧ (la = 1 → lb ≠ 1 → r2.1 = 1 ∧ r2.2.1 = ca) ∧ (lb = 1 → la = 2 → r2.1 = 1 ∧ r2.2.1 = cb) := by
  have c3 : ∀ x : UInt8, x ≤ 2 → x = 0 ∨ x = 1 ∨ x = 2 := fun x h => by
    have h' : x.toNat ≤ 2 := by rw [UInt8.le_iff_toNat_le] at h; exact h
    have h0 : x.toNat = 0 ∨ x.toNat = 1 ∨ x.toNat = 2 := by omega
    rcases h0 with h | h | h
    · exact .inl (UInt8.toNat_inj.1 h)
    · exact .inr (.inl (UInt8.toNat_inj.1 h))
    · exact .inr (.inr (UInt8.toNat_inj.1 h))
  have e1 : (0 : UInt8) % 4 = 0 := by decide
  have e2 : (1 : UInt8) % 4 = 1 := by decide
  have e3 : (2 : UInt8) % 4 = 2 := by decide
  have e4 : (128 : UInt8) % 4 = 0 := by decide
  rcases c3 la ha with rfl | rfl | rfl <;> rcases c3 lb hb with rfl | rfl | rfl <;> by_cases hc : ca = cb <;> by_cases hz : ca = 0 <;> by_cases hy : cb = 0
  all_goals
    have hc' : (cb = ca) = (ca = cb) := propext ⟨Eq.symm, Eq.symm⟩
    have hz' : ((0 : UInt8) = ca) = (ca = 0) := propext ⟨Eq.symm, Eq.symm⟩
    have hy' : ((0 : UInt8) = cb) = (cb = 0) := propext ⟨Eq.symm, Eq.symm⟩
    simp +decide [step, say, hc, hz, hy, hc', hz', hy', e1, e2, e3, e4]

def R1 (a b : List UInt8) (f : Nat) : UInt8 × UInt8 × Option (UInt8 × UInt8) := step (lv b f) (ch b f) (some (lv a f, ch a f))
def R2 (a b : List UInt8) (f : Nat) : UInt8 × UInt8 × Option (UInt8 × UInt8) := step (lv a f) (ch a f) (R1 a b f).2.2
def R3 (a b : List UInt8) (f : Nat) : UInt8 × UInt8 × Option (UInt8 × UInt8) := step (R1 a b f).1 (R1 a b f).2.1 (R2 a b f).2.2
/-- both hold what three sayings of each function make -/
def Both (a b x y : List UInt8) : Prop := ∀ f, f ∈ FL → lv x f = (R2 a b f).1 ∧ ch x f = (R2 a b f).2.1 ∧ lv y f = (R3 a b f).1 ∧ ch y f = (R3 a b f).2.1

theorem FL_bd {f : Nat} (h : f ∈ FL) : f < 19 := by have := FL_fn f h; omega
theorem take_ok' {k d : List UInt8} (h : right k = true) (h3 : d.length % 3 = 0) (h4 : d.length ≤ 300) : takeT k d = ((run k d).1, (run k d).2, 0) := by
  unfold takeT; rw [if_pos h, if_pos h3, if_pos h4]

theorem talk_two (a b : List UInt8) (ha : a.length = 38) (hb : b.length = 38) (hra : right a = true) (hrb : right b = true) :
    ∃ x y n, talk 10 0 a b (text a) = (x, y, n) ∧ 1 ≤ n ∧ n ≤ 3 ∧ right x = true ∧ Both a b x y := by
  have hT := text_enc a
  have hTl := text_len a
  have hr3 : ∀ f ∈ FL, (R3 a b f).2.2 = none := fun f hf => by
    obtain ⟨_, _, h3⟩ := (right_iff a).1 hra
    obtain ⟨_, _, h4⟩ := (right_iff b).1 hrb
    exact (three (lv a f) (ch a f) (lv b f) (ch b f) (h3 f (FL_bd hf)) (h4 f (FL_bd hf))).1
  obtain ⟨s1, k1⟩ := run_enc FL b (fun f => some (lv a f, ch a f)) hb FL_fn FL_nodup
  rw [← hT] at s1 k1
  have hne : text a ≠ [] := fun h => by rw [h] at hTl; simp at hTl
  have t1 := take_ok' hrb (d := text a) (by omega) (by omega)
  have l1 := run_said b (text a)
  have rb1 := run_right hb hrb (text a)
  have lb1 : (run b (text a)).1.length = 38 := by rw [run_len, hb]
  rw [talk_b 9 0 a b (text a) hne rfl, t1]
  dsimp only
  rw [s1]
  rw [s1] at l1
  have K1 : ∀ f ∈ FL, lv (run b (text a)).1 f = (R1 a b f).1 ∧ ch (run b (text a)).1 f = (R1 a b f).2.1 := fun f hf => by
    obtain ⟨e1, e2⟩ := k1 f (FL_bd hf)
    rw [e1, e2, if_pos hf, if_pos hf]
    exact ⟨rfl, rfl⟩
  have E1 : enc FL (fun f => (step (lv b f) (ch b f) (some (lv a f, ch a f))).2.2) = enc FL (fun f => (R1 a b f).2.2) := rfl
  rw [E1] at l1 ⊢
  generalize (run b (text a)).1 = b1 at *
  by_cases h1 : enc FL (fun f => (R1 a b f).2.2) = []
  · rw [h1, talk_end]
    refine ⟨a, b1, 1, rfl, by omega, by omega, hra, fun f hf => ?_⟩
    have e := enc_nil.1 h1 f hf
    have e2 : R2 a b f = (lv a f, ch a f, none) := by unfold R2; rw [e]; rfl
    have e3 : R3 a b f = ((R1 a b f).1, (R1 a b f).2.1, none) := by unfold R3; rw [e2]; rfl
    rw [e2, e3]
    exact ⟨rfl, rfl, K1 f hf⟩
  · obtain ⟨s2, k2⟩ := run_enc FL a (fun f => (R1 a b f).2.2) ha FL_fn FL_nodup
    have t2 := take_ok' hra (d := enc FL (fun f => (R1 a b f).2.2)) (by omega) (by omega)
    have l2 := run_said a (enc FL (fun f => (R1 a b f).2.2))
    have ra1 := run_right ha hra (enc FL (fun f => (R1 a b f).2.2))
    rw [talk_a 8 1 a b1 _ h1 (by decide), t2]
    dsimp only
    rw [s2]
    rw [s2] at l2
    have K2 : ∀ f ∈ FL, lv (run a (enc FL (fun f => (R1 a b f).2.2))).1 f = (R2 a b f).1 ∧ ch (run a (enc FL (fun f => (R1 a b f).2.2))).1 f = (R2 a b f).2.1 := fun f hf => by
      obtain ⟨e1, e2⟩ := k2 f (FL_bd hf)
      rw [e1, e2, if_pos hf, if_pos hf]
      exact ⟨rfl, rfl⟩
    have E2 : enc FL (fun f => (step (lv a f) (ch a f) (R1 a b f).2.2).2.2) = enc FL (fun f => (R2 a b f).2.2) := rfl
    rw [E2] at l2 ⊢
    generalize (run a (enc FL (fun f => (R1 a b f).2.2))).1 = a1 at *
    by_cases h2 : enc FL (fun f => (R2 a b f).2.2) = []
    · rw [h2, talk_end]
      refine ⟨a1, b1, 2, rfl, by omega, by omega, ra1, fun f hf => ?_⟩
      have e := enc_nil.1 h2 f hf
      have e3 : R3 a b f = ((R1 a b f).1, (R1 a b f).2.1, none) := by unfold R3; rw [e]; rfl
      rw [e3]
      exact ⟨(K2 f hf).1, (K2 f hf).2, K1 f hf⟩
    · obtain ⟨s3, k3⟩ := run_enc FL b1 (fun f => (R2 a b f).2.2) lb1 FL_fn FL_nodup
      have t3 := take_ok' rb1 (d := enc FL (fun f => (R2 a b f).2.2)) (by omega) (by omega)
      rw [talk_b 7 2 a1 b1 _ h2 (by decide), t3]
      dsimp only
      rw [s3]
      have h3 : enc FL (fun f => (step (lv b1 f) (ch b1 f) (R2 a b f).2.2).2.2) = [] := enc_nil.2 fun f hf => by
        obtain ⟨e1, e2⟩ := K1 f hf
        rw [e1, e2]
        exact hr3 f hf
      rw [h3, talk_end]
      refine ⟨a1, _, 3, rfl, by omega, by omega, ra1, fun f hf => ?_⟩
      obtain ⟨e1, e2⟩ := k3 f (FL_bd hf)
      obtain ⟨e3, e4⟩ := K1 f hf
      rw [e1, e2, if_pos hf, if_pos hf, e3, e4]
      exact ⟨(K2 f hf).1, (K2 f hf).2, rfl, rfl⟩

/-- what SlcAgree asks of each function -/
theorem both_says {a b x y : List UInt8} (hra : right a = true) (hrb : right b = true) (h : Both a b x y) (f : Nat) (h1 : 1 ≤ f) (h2 : f ≤ 18) :
    lv x f = lv y f ∧ ch x f = ch y f ∧ (lv a f = 1 → lv b f ≠ 1 → lv x f = 1 ∧ ch x f = ch a f) ∧ (lv b f = 1 → lv a f = 2 → lv x f = 1 ∧ ch x f = ch b f) := by
  obtain ⟨_, _, h3⟩ := (right_iff a).1 hra
  obtain ⟨_, _, h4⟩ := (right_iff b).1 hrb
  obtain ⟨_, t2, t3, t4, t5⟩ := three (lv a f) (ch a f) (lv b f) (ch b f) (h3 f (by omega)) (h4 f (by omega))
  obtain ⟨e1, e2, e3, e4⟩ := h f (FL_mem h1 h2)
  rw [e1, e2, e3, e4]
  exact ⟨t2, t3, t4, t5⟩
end Go.Proofs.Ytfipmggdpigbkaa.K
