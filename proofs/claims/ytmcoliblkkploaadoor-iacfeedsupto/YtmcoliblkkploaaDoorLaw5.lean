/-
  Plain laws: a stream's tokens from its front, one by one, are those that the reader tells, rows of data made one; what is left is the reader's wire; no program in sight; no condition.
-/
import Derived.Test.YtmcoliblkkploaaDoorLaw4
namespace Go.Proofs.YtmcoliblkkploaaDoor

/-- a reader among an option's words d -/
def wds (o : Int) (d : List UInt8) (md : Int) (d0 : List UInt8) (ts : List Tk) : RS := if d.length ≤ 4096 then ⟨md, 0, o, false, d, d0, ts⟩ else ⟨md, 0, o, true, [], d0, ts⟩
theorem wds_put (o : Int) (d d0 : List UInt8) (ts : List Tk) (c : UInt8) : (wds o d 4 d0 ts).putWord c = wds o (d ++ [c]) 4 d0 ts := by
  unfold wds RS.putWord
  by_cases h : d.length ≤ 4096
  · rw [if_pos h]
    by_cases h2 : d.length = 4096
    · rw [if_neg (by simp), if_pos h2, if_neg (by simp; omega)]
    · rw [if_neg (by simp), if_neg h2, if_pos (by simp; omega)]
  · rw [if_neg h, if_pos rfl, if_neg (by simp; omega)]
theorem wds_mode (o : Int) (d d0 : List UInt8) (ts : List Tk) (md : Int) : (wds o d md d0 ts).mode = md := by unfold wds; split <;> rfl
theorem wds_set (o : Int) (d d0 : List UInt8) (ts : List Tk) (md k : Int) : { wds o d md d0 ts with mode := k } = wds o d k d0 ts := by unfold wds; split <;> rfl
theorem wds_tell (o : Int) (d d0 : List UInt8) (ts : List Tk) (md : Int) (t : Tk) : (wds o d md d0 ts).tell t = ⟨0, 0, 0, false, [], [], (ts ++ tail d0) ++ [t]⟩ := by
  unfold wds; split <;> simp [RS.tell, flush_toks_eq]
theorem wds_byte (o : Int) (d d0 : List UInt8) (ts : List Tk) (c : UInt8) (h : c.toNat ≠ 255) : (wds o d 4 d0 ts).take c = wds o (d ++ [c]) 4 d0 ts := by
  rw [RS.take, wds_mode]
  simp only [show ¬ ((4 : Int) = 0) from by decide, show ¬ ((4 : Int) = 1) from by decide, show ¬ ((4 : Int) = 2) from by decide, show ¬ ((4 : Int) = 3) from by decide, if_false, if_true]
  rw [RS.takeWord, if_neg h, wds_put]
theorem wds_iac (o : Int) (d d0 : List UInt8) (ts : List Tk) (c : UInt8) (h : c.toNat = 255) : (wds o d 4 d0 ts).take c = wds o d 5 d0 ts := by
  rw [RS.take, wds_mode]
  simp only [show ¬ ((4 : Int) = 0) from by decide, show ¬ ((4 : Int) = 1) from by decide, show ¬ ((4 : Int) = 2) from by decide, show ¬ ((4 : Int) = 3) from by decide, if_false, if_true]
  rw [RS.takeWord, if_pos h, wds_set]
theorem wds_cmd (o : Int) (d d0 : List UInt8) (ts : List Tk) (c : UInt8) : (wds o d 5 d0 ts).take c = (wds o d 5 d0 ts).takeWordsCommand c := by
  rw [RS.take, wds_mode]
  simp only [show ¬ ((5 : Int) = 0) from by decide, show ¬ ((5 : Int) = 1) from by decide, show ¬ ((5 : Int) = 2) from by decide, show ¬ ((5 : Int) = 3) from by decide, show ¬ ((5 : Int) = 4) from by decide, if_false, if_true]
theorem wds_two (o : Int) (d d0 : List UInt8) (ts : List Tk) (c : UInt8) (h : c.toNat = 255) : (wds o d 5 d0 ts).take c = wds o (d ++ [c]) 4 d0 ts := by
  rw [wds_cmd, RS.takeWordsCommand, if_pos h, wds_set, wds_put]
theorem wds_opt (o : Int) (d d0 : List UInt8) (ts : List Tk) (md : Int) : (wds o d md d0 ts).opt = o := by unfold wds; split <;> rfl
def endTok (o : UInt8) (d : List UInt8) : Tk := if d.length ≤ 4096 then ⟨4, 0, o.toNat, d⟩ else ⟨5, 250, o.toNat, []⟩
theorem endTok_kind (o : UInt8) (d : List UInt8) : (endTok o d).kind ≠ 1 := by unfold endTok; split <;> simp
theorem wds_end (o : UInt8) (d d0 : List UInt8) (ts : List Tk) (c : UInt8) (h : c.toNat = 240) : (wds o.toNat d 5 d0 ts).take c = ⟨0, 0, 0, false, [], [], (ts ++ tail d0) ++ [endTok o d]⟩ := by
  rw [wds_cmd, RS.takeWordsCommand, if_neg (by omega), if_neg (by omega)]
  unfold endTok
  by_cases hd : d.length ≤ 4096
  · rw [if_pos hd, wds, if_pos hd]
    simp [RS.tell, flush_toks_eq]
  · rw [if_neg hd, wds, if_neg hd]
    simp [RS.tell, flush_toks_eq]
theorem wds_bad (o : UInt8) (d d0 : List UInt8) (ts : List Tk) (c : UInt8) (h : c.toNat ≠ 240) (h2 : c.toNat ≠ 255) : (wds o.toNat d 5 d0 ts).take c = ⟨0, 0, 0, false, [], [], (ts ++ tail d0) ++ [⟨5, c.toNat, o.toNat, []⟩]⟩ := by
  rw [wds_cmd, RS.takeWordsCommand, if_neg h2, if_pos h, wds_opt, wds_tell]

/-- an option's words, behind its number -/
def words (o : UInt8) : List UInt8 → List UInt8 → Nat → Sum (Bool × List UInt8) (Tk × Nat)
  | [], d, _ => .inl (false, d)
  | [c], d, _ => if c.toNat = 255 then .inl (true, d) else .inl (false, d ++ [c])
  | c :: c2 :: r, d, n => if c.toNat = 255 then (if c2.toNat = 240 then .inr (endTok o d, n + 2) else if c2.toNat = 255 then words o r (d ++ [c2]) (n + 2) else .inr (⟨5, c2.toNat, o.toNat, []⟩, n + 2)) else words o (c2 :: r) (d ++ [c]) (n + 1)

theorem words_in (o : UInt8) (d0 : List UInt8) (ts : List Tk) (b : Bool) (d' : List UInt8) : ∀ (s d : List UInt8) (n : Nat), words o s d n = .inl (b, d') → s.foldl RS.take (wds o.toNat d 4 d0 ts) = wds o.toNat d' (if b then 5 else 4) d0 ts
  | [], d, n, h => by simp [words] at h; obtain ⟨rfl, rfl⟩ := h; rfl
  | [c], d, n, h => by
    rw [words] at h
    by_cases hc : c.toNat = 255
    · rw [if_pos hc] at h; simp at h; obtain ⟨rfl, rfl⟩ := h
      rw [List.foldl_cons, List.foldl_nil, wds_iac _ _ _ _ _ hc]; rfl
    · rw [if_neg hc] at h; simp at h; obtain ⟨rfl, rfl⟩ := h
      rw [List.foldl_cons, List.foldl_nil, wds_byte _ _ _ _ _ hc]; rfl
  | c :: c2 :: r, d, n, h => by
    rw [words] at h
    by_cases hc : c.toNat = 255
    · rw [if_pos hc] at h
      by_cases h2 : c2.toNat = 240
      · rw [if_pos h2] at h; cases h
      · rw [if_neg h2] at h
        by_cases h3 : c2.toNat = 255
        · rw [if_pos h3] at h
          rw [List.foldl_cons, List.foldl_cons, wds_iac _ _ _ _ _ hc, wds_two _ _ _ _ _ h3]
          exact words_in o d0 ts b d' r _ _ h
        · rw [if_neg h3] at h; cases h
    · rw [if_neg hc] at h
      rw [List.foldl_cons, wds_byte _ _ _ _ _ hc]
      exact words_in o d0 ts b d' (c2 :: r) _ _ h
theorem words_out (o : UInt8) (d0 : List UInt8) (ts : List Tk) (t : Tk) (k : Nat) : ∀ (s d : List UInt8) (n : Nat), words o s d n = .inr (t, k) → n < k ∧ k ≤ n + s.length ∧ t.kind ≠ 1 ∧ (s.take (k - n)).foldl RS.take (wds o.toNat d 4 d0 ts) = ⟨0, 0, 0, false, [], [], (ts ++ tail d0) ++ [t]⟩
  | [], d, n, h => by simp [words] at h
  | [c], d, n, h => by
    rw [words] at h
    by_cases hc : c.toNat = 255
    · rw [if_pos hc] at h; cases h
    · rw [if_neg hc] at h; cases h
  | c :: c2 :: r, d, n, h => by
    rw [words] at h
    by_cases hc : c.toNat = 255
    · rw [if_pos hc] at h
      by_cases h2 : c2.toNat = 240
      · rw [if_pos h2] at h; simp at h; obtain ⟨rfl, rfl⟩ := h
        refine ⟨by omega, by simp, endTok_kind _ _, ?_⟩
        rw [show n + 2 - n = 2 by omega]
        simp only [List.take_succ_cons, List.take_zero, List.foldl_cons, List.foldl_nil]
        rw [wds_iac _ _ _ _ _ hc, wds_end _ _ _ _ _ h2]
      · rw [if_neg h2] at h
        by_cases h3 : c2.toNat = 255
        · rw [if_pos h3] at h
          obtain ⟨q1, q2, q3, q4⟩ := words_out o d0 ts t k r _ _ h
          refine ⟨by omega, by simp; omega, q3, ?_⟩
          rw [show k - n = (k - (n + 2)) + 1 + 1 by omega]
          simp only [List.take_succ_cons, List.foldl_cons]
          rw [wds_iac _ _ _ _ _ hc, wds_two _ _ _ _ _ h3]
          exact q4
        · rw [if_neg h3] at h; simp at h; obtain ⟨rfl, rfl⟩ := h
          refine ⟨by omega, by simp, by simp, ?_⟩
          rw [show n + 2 - n = 2 by omega]
          simp only [List.take_succ_cons, List.take_zero, List.foldl_cons, List.foldl_nil]
          rw [wds_iac _ _ _ _ _ hc, wds_bad _ _ _ _ _ h2 h3]
    · rw [if_neg hc] at h
      obtain ⟨q1, q2, q3, q4⟩ := words_out o d0 ts t k (c2 :: r) _ _ h
      refine ⟨by omega, by simp at q2 ⊢; omega, q3, ?_⟩
      rw [show k - n = (k - (n + 1)) + 1 by omega]
      simp only [List.take_succ_cons, List.foldl_cons]
      rw [wds_byte _ _ _ _ _ hc]
      exact q4

def wdsW (o : UInt8) (d : List UInt8) (b : Bool) : Wr := (wds o.toNat d (if b then 5 else 4) [] []).wire
/-- the token at the front and its bytes; or the wire of what isn't whole -/
def token : List UInt8 → Sum Wr (Tk × Nat)
  | [] => .inl zeroW
  | c :: s => if c.toNat ≠ 255 then .inr (D [c], 1) else match s with
    | [] => .inl ⟨1, 0, 0, [], false⟩
    | c2 :: s2 => if c2.toNat = 255 then .inr (D [c], 2) else if c2.toNat < 240 then .inr (⟨5, c2.toNat, 0, []⟩, 2) else if c2.toNat < 250 then .inr (⟨2, c2.toNat, 0, []⟩, 2) else match s2 with
      | [] => .inl (if c2.toNat = 250 then ⟨3, 0, 0, [], false⟩ else ⟨2, c2.toNat, 0, [], false⟩)
      | o :: s3 => if 250 < c2.toNat then .inr (⟨3, c2.toNat, o.toNat, []⟩, 3) else match words o s3 [] 3 with
        | .inl p => .inl (wdsW o p.2 p.1)
        | .inr p => .inr p
def at_ (x : Wr) (d0 : List UInt8) (ts : List Tk) : RS := ⟨x.mode, x.cmd, x.opt, x.over, x.buf, d0, ts⟩
theorem wds_at (o : UInt8) (d d0 : List UInt8) (ts : List Tk) (b : Bool) : wds o.toNat d (if b then 5 else 4) d0 ts = at_ (wdsW o d b) d0 ts := by
  unfold wdsW wds at_; split <;> rfl

theorem token_in (s d0 : List UInt8) (ts : List Tk) (x : Wr) (h : token s = .inl x) : s.foldl RS.take (at_ zeroW d0 ts) = at_ x d0 ts := by
  have r0 : at_ zeroW d0 ts = ⟨0, 0, 0, false, [], d0, ts⟩ := rfl
  match s, h with
  | [], h => simp [token] at h; subst h; rfl
  | c :: s, h =>
    unfold token at h
    dsimp only at h
    by_cases hc : c.toNat = 255
    · rw [if_neg (by omega)] at h
      have e1 : RS.take ⟨0, 0, 0, false, [], d0, ts⟩ c = ⟨1, 0, 0, false, [], d0, ts⟩ := by simp [RS.take, RS.takeByte, hc]
      rw [List.foldl_cons, r0, e1]
      match s, h with
      | [], h => simp at h; subst h; rfl
      | c2 :: s2, h =>
        simp only at h
        by_cases h2 : c2.toNat = 255
        · rw [if_pos h2] at h; cases h
        rw [if_neg h2] at h
        by_cases h3 : c2.toNat < 240
        · rw [if_pos h3] at h; cases h
        rw [if_neg h3] at h
        by_cases h4 : c2.toNat < 250
        · rw [if_pos h4] at h; cases h
        rw [if_neg h4] at h
        match s2, h with
        | [], h =>
          simp only [Sum.inl.injEq] at h
          subst h
          rw [List.foldl_cons, List.foldl_nil]
          by_cases h5 : c2.toNat = 250
          · rw [if_pos h5]; simp [RS.take, RS.takeCommand, h5, at_]
          · rw [if_neg h5]; simp [RS.take, RS.takeCommand, h2, h5, show 251 ≤ c2.toNat by omega, at_]
        | o :: s3, h =>
          simp only at h
          by_cases h5 : 250 < c2.toNat
          · rw [if_pos h5] at h; cases h
          rw [if_neg h5] at h
          have h6 : c2.toNat = 250 := by omega
          have e2 : RS.take ⟨1, 0, 0, false, [], d0, ts⟩ c2 = ⟨3, 0, 0, false, [], d0, ts⟩ := by simp [RS.take, RS.takeCommand, h6]
          have e3 : RS.take ⟨3, 0, 0, false, [], d0, ts⟩ o = wds o.toNat [] 4 d0 ts := by simp [RS.take, wds]
          rw [List.foldl_cons, List.foldl_cons, e2, e3]
          cases hw : words o s3 [] 3 with
          | inl p =>
            rw [hw] at h
            simp only [Sum.inl.injEq] at h
            subst h
            rw [words_in o d0 ts p.1 p.2 s3 [] 3 hw, wds_at]
          | inr p => rw [hw] at h; cases h
    · rw [if_pos hc] at h; cases h
theorem token_out (s d0 : List UInt8) (ts : List Tk) (t : Tk) (k : Nat) (h : token s = .inr (t, k)) : 0 < k ∧ k ≤ s.length ∧ (t.kind = 1 → t = D t.data) ∧ (s.take k).foldl RS.take (at_ zeroW d0 ts) = gain (at_ zeroW d0 ts) t := by
  have r0 : at_ zeroW d0 ts = ⟨0, 0, 0, false, [], d0, ts⟩ := rfl
  have other : ∀ u : Tk, u.kind ≠ 1 → gain (at_ zeroW d0 ts) u = ⟨0, 0, 0, false, [], [], (ts ++ tail d0) ++ [u]⟩ := fun u hu => by
    rw [gain, if_neg hu, r0]
    simp [RS.tell, flush_toks_eq]
  have tel : ∀ (md c : Int) (u : Tk), RS.tell ⟨md, c, 0, false, [], d0, ts⟩ u = ⟨0, 0, 0, false, [], [], (ts ++ tail d0) ++ [u]⟩ := fun md c u => by simp [RS.tell, flush_toks_eq]
  match s, h with
  | [], h => simp [token] at h
  | c :: s, h =>
    unfold token at h
    dsimp only at h
    by_cases hc : c.toNat = 255
    · rw [if_neg (by omega)] at h
      have e1 : RS.take ⟨0, 0, 0, false, [], d0, ts⟩ c = ⟨1, 0, 0, false, [], d0, ts⟩ := by simp [RS.take, RS.takeByte, hc]
      match s, h with
      | [], h => simp at h
      | c2 :: s2, h =>
        simp only at h
        by_cases h2 : c2.toNat = 255
        · rw [if_pos h2] at h; simp at h; obtain ⟨rfl, rfl⟩ := h
          refine ⟨by omega, by simp, fun _ => rfl, ?_⟩
          have e : c2 = c := by
            apply UInt8.toNat_inj.1; omega
          subst e
          simp only [List.take_succ_cons, List.take_zero, List.foldl_cons, List.foldl_nil]
          rw [r0, e1]
          simp [RS.take, RS.takeCommand, h2, gain, D]
        rw [if_neg h2] at h
        by_cases h3 : c2.toNat < 240
        · rw [if_pos h3] at h; simp at h; obtain ⟨rfl, rfl⟩ := h
          refine ⟨by omega, by simp, fun e => by simp at e, ?_⟩
          rw [other _ (by simp)]
          simp only [List.take_succ_cons, List.take_zero, List.foldl_cons, List.foldl_nil]
          rw [r0, e1, ← tel 1 0]
          simp [RS.take, RS.takeCommand, h2, show ¬ c2.toNat = 250 by omega, show ¬ 251 ≤ c2.toNat by omega, show ¬ 240 ≤ c2.toNat by omega]
        rw [if_neg h3] at h
        by_cases h4 : c2.toNat < 250
        · rw [if_pos h4] at h; simp at h; obtain ⟨rfl, rfl⟩ := h
          refine ⟨by omega, by simp, fun e => by simp at e, ?_⟩
          rw [other _ (by simp)]
          simp only [List.take_succ_cons, List.take_zero, List.foldl_cons, List.foldl_nil]
          rw [r0, e1, ← tel 1 0]
          simp [RS.take, RS.takeCommand, h2, show ¬ c2.toNat = 250 by omega, show ¬ 251 ≤ c2.toNat by omega, show 240 ≤ c2.toNat by omega]
        rw [if_neg h4] at h
        match s2, h with
        | [], h => simp at h
        | o :: s3, h =>
          simp only at h
          by_cases h5 : 250 < c2.toNat
          · rw [if_pos h5] at h; simp at h; obtain ⟨rfl, rfl⟩ := h
            refine ⟨by omega, by simp, fun e => by simp at e, ?_⟩
            rw [other _ (by simp)]
            simp only [List.take_succ_cons, List.take_zero, List.foldl_cons, List.foldl_nil]
            have e2 : RS.take ⟨1, 0, 0, false, [], d0, ts⟩ c2 = ⟨2, c2.toNat, 0, false, [], d0, ts⟩ := by simp [RS.take, RS.takeCommand, h2, show ¬ c2.toNat = 250 by omega, show 251 ≤ c2.toNat by omega]
            rw [r0, e1, e2, ← tel 2 c2.toNat]
            simp [RS.take]
          rw [if_neg h5] at h
          have h6 : c2.toNat = 250 := by omega
          have e2 : RS.take ⟨1, 0, 0, false, [], d0, ts⟩ c2 = ⟨3, 0, 0, false, [], d0, ts⟩ := by simp [RS.take, RS.takeCommand, h6]
          have e3 : RS.take ⟨3, 0, 0, false, [], d0, ts⟩ o = wds o.toNat [] 4 d0 ts := by simp [RS.take, wds]
          cases hw : words o s3 [] 3 with
          | inl p => rw [hw] at h; cases h
          | inr p =>
            rw [hw] at h
            simp only [Sum.inr.injEq] at h
            subst h
            obtain ⟨q1, q2, q3, q4⟩ := words_out o d0 ts t k s3 [] 3 hw
            refine ⟨by omega, by simp; omega, fun e => absurd e q3, ?_⟩
            rw [other _ q3]
            have e4 : (c :: c2 :: o :: s3).take k = c :: c2 :: o :: s3.take (k - 3) := by
              obtain ⟨j, rfl⟩ : ∃ j, k = j + 3 := ⟨k - 3, by omega⟩
              simp
            rw [e4, List.foldl_cons, List.foldl_cons, List.foldl_cons, r0, e1, e2, e3]
            exact q4
    · rw [if_pos hc] at h; simp at h; obtain ⟨rfl, rfl⟩ := h
      refine ⟨by omega, by simp, fun _ => rfl, ?_⟩
      simp only [List.take_succ_cons, List.take_zero, List.foldl_cons, List.foldl_nil]
      rw [r0]
      simp [RS.take, RS.takeByte, hc, gain, D]

/-- the tokens of a stream, how many bytes they have, and the wire of the rest -/
def stream : Nat → List UInt8 → List Tk × Nat × Wr
  | 0, _ => ([], 0, zeroW)
  | f + 1, s => match token s with
    | .inl x => ([], 0, x)
    | .inr p => (p.1 :: (stream f (s.drop p.2)).1, p.2 + (stream f (s.drop p.2)).2.1, (stream f (s.drop p.2)).2.2)
theorem gain_at (d0 : List UInt8) (ts : List Tk) (t : Tk) : ∃ d1 ts1, gain (at_ zeroW d0 ts) t = at_ zeroW d1 ts1 := by
  unfold gain
  split
  · exact ⟨_, _, rfl⟩
  · exact ⟨_, _, rfl⟩
theorem stream_read : ∀ (f : Nat) (s d0 : List UInt8) (ts : List Tk), s.length < f → ∃ d1 ts1, s.foldl RS.take (at_ zeroW d0 ts) = at_ (stream f s).2.2 d1 ts1 ∧ (stream f s).1.foldl gain (at_ zeroW d0 ts) = at_ zeroW d1 ts1 ∧ Pr (stream f s).1 ∧ (stream f s).2.1 ≤ s.length ∧ token (s.drop (stream f s).2.1) = .inl (stream f s).2.2
  | 0, s, _, _, h => by omega
  | f + 1, s, d0, ts, h => by
    cases ht : token s with
    | inl x =>
      have e : stream (f + 1) s = ([], 0, x) := by rw [stream, ht]
      rw [e]
      exact ⟨d0, ts, token_in s d0 ts x ht, rfl, fun t ht => by simp at ht, by simp, by simpa using ht⟩
    | inr p =>
      obtain ⟨t, k⟩ := p
      have e : stream (f + 1) s = (t :: (stream f (s.drop k)).1, k + (stream f (s.drop k)).2.1, (stream f (s.drop k)).2.2) := by rw [stream, ht]
      rw [e]
      obtain ⟨h1, h2, h3, h4⟩ := token_out s d0 ts t k ht
      obtain ⟨da, ta, hga⟩ := gain_at d0 ts t
      obtain ⟨d1, ts1, i1, i2, i3, i4, i5⟩ := stream_read f (s.drop k) da ta (by simp; omega)
      refine ⟨d1, ts1, ?_, ?_, ?_, ?_, ?_⟩
      · have hs : s.foldl RS.take (at_ zeroW d0 ts) = (s.drop k).foldl RS.take ((s.take k).foldl RS.take (at_ zeroW d0 ts)) := by rw [← List.foldl_append, List.take_append_drop]
        rw [hs, h4, hga]
        exact i1
      · rw [List.foldl_cons, hga]; exact i2
      · intro u hu hk
        rcases List.mem_cons.1 hu with rfl | hu
        · exact h3 hk
        · exact i3 u hu hk
      · simp at i4 ⊢; omega
      · rw [← List.drop_drop]; exact i5
theorem feed_stream (s : List UInt8) : (feed zeroW s).toks = merge (stream (s.length + 1) s).1 ∧ (feed zeroW s).wire = (stream (s.length + 1) s).2.2 := by
  obtain ⟨d1, ts1, h1, h2, h3, _, _⟩ := stream_read (s.length + 1) s [] [] (by omega)
  have e : feedTo zeroW s = at_ (stream (s.length + 1) s).2.2 d1 ts1 := h1
  have g := gains (stream (s.length + 1) s).1 (at_ zeroW [] []) h3
  rw [h2] at g
  refine ⟨?_, ?_⟩
  · rw [feed, e, flush_toks_eq]
    rw [flush_toks_eq] at g
    exact g
  · rw [feed, flush_wire, e]
    rfl
end Go.Proofs.YtmcoliblkkploaaDoor
