/-
  Plain laws: the bytes of a token that isn't whole, and the wire that they are; no program in sight; no condition.
-/
import Derived.Test.YtmcoliblkkploaaDoorLaw5
namespace Go.Proofs.YtmcoliblkkploaaDoor

/-- 255, 255 as one 255 -/
def un : List UInt8 → List UInt8
  | [] => []
  | [c] => [c]
  | c :: c2 :: r => if c = 255 ∧ c2 = 255 then 255 :: un r else c :: un (c2 :: r)
theorem unK : ∀ l : List UInt8, Lib.replaceK [255, 255] [255] (Lib.count l [255, 255]) l = un l
  | [] => rfl
  | [c] => by
    have : Lib.index [c] [255, 255] = -1 := by simp [Lib.index, List.isPrefixOf]
    rw [Lib.count_miss this]; rfl
  | c :: c2 :: r => by
    rw [un]
    by_cases h : c = 255 ∧ c2 = 255
    · obtain ⟨rfl, rfl⟩ := h
      have hi : Lib.index (255 :: 255 :: r) [255, 255] = ((0 : Nat) : Int) := by simp [Lib.index, List.isPrefixOf]
      rw [Lib.count_hit (by simp) hi, Nat.add_comm, Lib.replaceK_hit _ _ _ _ 0 hi]
      simp only [List.take_zero, List.nil_append, List.length_cons, List.length_nil, Nat.zero_add, List.drop_succ_cons, List.drop_zero]
      rw [unK r]
      simp
    · rw [if_neg h]
      have ih := unK (c2 :: r)
      rw [← ih]
      have hp : ¬ ([255, 255] : List UInt8).isPrefixOf (c :: c2 :: r) = true := by
        simp [List.isPrefixOf]
        intro e1 e2
        exact h ⟨e1.symm, e2.symm⟩
      rcases Lib.index_spec (c2 :: r) [255, 255] with ⟨h1, _⟩ | ⟨i, h1, _⟩
      · have h2 : Lib.index (c :: c2 :: r) [255, 255] = -1 := by rw [Lib.index, if_neg hp, h1]; rfl
        rw [Lib.count_miss h1, Lib.count_miss h2]
        rfl
      · have h2 : Lib.index (c :: c2 :: r) [255, 255] = ((i + 1 : Nat) : Int) := by
          rw [Lib.index, if_neg hp, h1, if_neg (by simp)]
          omega
        rw [Lib.count_hit (by simp) h1, Lib.count_hit (by simp) h2, Nat.add_comm 1, Nat.add_comm 1, Lib.replaceK_hit _ _ _ _ i h1, Lib.replaceK_hit _ _ _ _ (i + 1) h2]
        have e : (c :: c2 :: r).drop (i + 1 + ([255, 255] : List UInt8).length) = (c2 :: r).drop (i + ([255, 255] : List UInt8).length) := by
          simp only [List.length_cons, List.length_nil]
          rw [show i + 1 + (0 + 1 + 1) = (i + 2) + 1 by omega, List.drop_succ_cons]
        rw [e]
        simp
theorem un_all (l : List UInt8) : Lib.replaceAll l [255, 255] [255] = un l := by
  rw [Lib.replaceAll, Lib.replace, if_neg (by decide), Lib.replaceNum, if_pos (.inl (by decide)), unK]
theorem un_length : ∀ l : List UInt8, (un l).length ≤ l.length
  | [] => by simp [un]
  | [c] => by simp [un]
  | c :: c2 :: r => by
    rw [un]
    split
    · have := un_length r; simp; omega
    · have := un_length (c2 :: r); simp at this ⊢; omega
theorem un_cons (c : UInt8) (r : List UInt8) (h : c ≠ 255) : un (c :: r) = c :: un r := by
  cases r with
  | nil => simp [un]
  | cons c2 r => rw [un, if_neg (fun e => h e.1)]

/-- how many 255 stand at the front -/
def runs : List UInt8 → Nat
  | [] => 0
  | c :: r => if c.toNat = 255 then runs r + 1 else 0
theorem runs_le (l : List UInt8) : runs l ≤ l.length := by
  induction l with
  | nil => simp [runs]
  | cons c r ih => rw [runs]; split <;> simp; omega
theorem runs_all : ∀ (l : List UInt8) (k : Nat), (∀ j (h : j < l.length), j < k → l[j].toNat = 255) → k ≤ l.length → (∀ h : k < l.length, l[k].toNat ≠ 255) → runs l = k
  | [], k, _, h, _ => by simp at h; simp [runs, h]
  | t :: l, 0, _, _, h => by
    have := h (by simp)
    simp only [List.getElem_cons_zero] at this
    rw [runs, if_neg this]
  | t :: l, k + 1, ha, h, hn => by
    have h0 := ha 0 (by simp) (by omega)
    simp only [List.getElem_cons_zero] at h0
    rw [runs, if_pos h0, runs_all l k (fun j hj hjk => ha (j + 1) (by simpa using hj) (by omega)) (by simpa using h) (fun hk => hn (by simpa using hk))]
theorem runs_snoc (c : UInt8) : ∀ l : List UInt8, runs (l ++ [c]) = if runs l = l.length then l.length + (if c.toNat = 255 then 1 else 0) else runs l
  | [] => by simp [runs]
  | d :: l => by
    rw [List.cons_append, runs, runs, runs_snoc c l]
    have hlen : (d :: l).length = l.length + 1 := rfl
    by_cases hd : d.toNat = 255
    · rw [if_pos hd, if_pos hd]
      by_cases h : runs l = l.length
      · rw [if_pos h, if_pos (show runs l + 1 = (d :: l).length by rw [hlen, h]), hlen]; omega
      · rw [if_neg h, if_neg (show ¬ runs l + 1 = (d :: l).length by rw [hlen]; omega)]
    · rw [if_neg hd, if_neg hd, if_neg (show ¬ 0 = (d :: l).length by simp)]
def trail (l : List UInt8) : Nat := runs l.reverse
theorem trail_other (c : UInt8) (r : List UInt8) (h : c.toNat ≠ 255) : trail (c :: r) = trail r := by
  unfold trail
  rw [List.reverse_cons, runs_snoc, if_neg h]
  split
  · omega
  · rfl
theorem trail_two (c c2 : UInt8) (r : List UInt8) (h : c.toNat = 255) (h2 : c2.toNat = 255) : trail (c :: c2 :: r) % 2 = trail r % 2 := by
  unfold trail
  rw [List.reverse_cons, runs_snoc, List.reverse_cons, runs_snoc, if_pos h, if_pos h2]
  have := runs_le r.reverse
  simp only [List.length_append, List.length_cons, List.length_nil]
  by_cases e : runs r.reverse = r.reverse.length
  · rw [if_pos e, if_pos (by omega)]; omega
  · rw [if_neg e, if_neg (by omega)]

theorem words_un (o : UInt8) (b : Bool) (d' : List UInt8) : ∀ (s d : List UInt8) (n : Nat), words o s d n = .inl (b, d') → (trail s % 2 = if b then 1 else 0) ∧ d' = d ++ un (if b then s.dropLast else s) ∧ (b = true → s ≠ [])
  | [], d, n, h => by simp [words] at h; obtain ⟨rfl, rfl⟩ := h; simp [trail, runs, un]
  | [c], d, n, h => by
    rw [words] at h
    by_cases hc : c.toNat = 255
    · rw [if_pos hc] at h; simp at h; obtain ⟨rfl, rfl⟩ := h
      simp [trail, runs, hc, un]
    · rw [if_neg hc] at h; simp at h; obtain ⟨rfl, rfl⟩ := h
      simp [trail, runs, hc, un]
  | c :: c2 :: r, d, n, h => by
    rw [words] at h
    by_cases hc : c.toNat = 255
    · rw [if_pos hc] at h
      by_cases h2 : c2.toNat = 240
      · rw [if_pos h2] at h; cases h
      · rw [if_neg h2] at h
        by_cases h3 : c2.toNat = 255
        · rw [if_pos h3] at h
          obtain ⟨q1, q2, q3⟩ := words_un o b d' r _ _ h
          have e1 : c = 255 := UInt8.toNat_inj.1 (by rw [hc]; rfl)
          have e2 : c2 = 255 := UInt8.toNat_inj.1 (by rw [h3]; rfl)
          refine ⟨by rw [trail_two c c2 r hc h3, q1], ?_, fun _ => by simp⟩
          rw [q2]
          cases b with
          | false => simp [un, e1, e2]
          | true =>
            have hr := q3 rfl
            obtain ⟨x, y, rfl⟩ := List.exists_cons_of_ne_nil hr
            simp [un, e1, e2, List.dropLast]
        · rw [if_neg h3] at h; cases h
    · rw [if_neg hc] at h
      have hne : c ≠ 255 := fun e => hc (by rw [e]; rfl)
      obtain ⟨q1, q2, q3⟩ := words_un o b d' (c2 :: r) _ _ h
      refine ⟨by rw [trail_other c _ hc, q1], ?_, fun _ => by simp⟩
      rw [q2]
      cases b with
      | false =>
        simp only [Bool.false_eq_true, if_false]
        rw [un_cons c _ hne]; simp
      | true =>
        simp only [if_true]
        rw [show (c :: c2 :: r).dropLast = c :: (c2 :: r).dropLast from rfl, un_cons c _ hne]; simp

/-- the bytes of a right wire's token -/
def unread (x : Wr) : List UInt8 :=
  if x.mode = 0 then [] else if x.mode = 1 then [255] else if x.mode = 2 then [255, UInt8.ofNat x.cmd.toNat] else if x.mode = 3 then [255, 250]
  else 255 :: 250 :: UInt8.ofNat x.opt.toNat :: (esc (if x.over = true then List.replicate 4097 120 else x.buf) ++ (if x.mode = 4 then [] else [255]))
theorem esc_wds (o : Int) (d0 : List UInt8) (ts : List Tk) : ∀ (s d : List UInt8), (esc s).foldl RS.take (wds o d 4 d0 ts) = wds o (d ++ s) 4 d0 ts
  | [], d => by simp [esc]
  | b :: l, d => by
    rw [esc]
    by_cases hb : b.toNat = 255
    · rw [if_pos hb, List.foldl_cons, List.foldl_cons, wds_iac _ _ _ _ _ hb, wds_two _ _ _ _ _ hb, esc_wds o d0 ts l]
      simp
    · rw [if_neg hb, List.foldl_cons, wds_byte _ _ _ _ _ hb, esc_wds o d0 ts l]
      simp
theorem unread_read (x : Wr) (h : x.ok = true) : (unread x).foldl RS.take (at_ zeroW [] []) = RS.ofWr x := by
  have r0 : at_ zeroW [] [] = ⟨0, 0, 0, false, [], [], []⟩ := rfl
  have e1 : RS.take ⟨0, 0, 0, false, [], [], []⟩ 255 = ⟨1, 0, 0, false, [], [], []⟩ := by simp [RS.take, RS.takeByte]
  have e2 : RS.take ⟨1, 0, 0, false, [], [], []⟩ 250 = ⟨3, 0, 0, false, [], [], []⟩ := by simp [RS.take, RS.takeCommand]
  obtain ⟨m, c, o, buf, v⟩ := x
  rw [Wr.ok_iff] at h
  simp only at h
  rw [r0]
  rcases h with ⟨hm, rfl, rfl, rfl, rfl⟩ | ⟨rfl, hc, rfl, rfl, rfl⟩ | ⟨hm, rfl, ho, hv, hl⟩
  · rcases hm with rfl | rfl | rfl
    · rfl
    · simp only [unread, RS.ofWr]
      exact e1
    · simp only [unread, RS.ofWr]
      simp only [show ¬ ((3 : Int) = 0) from by decide, show ¬ ((3 : Int) = 1) from by decide, show ¬ ((3 : Int) = 2) from by decide, if_false, if_true]
      rw [List.foldl_cons, List.foldl_cons, List.foldl_nil, e1, e2]
  · obtain ⟨b, rfl, hb⟩ := byte_of c (by omega) (by omega)
    simp only [unread, RS.ofWr, hb]
    simp only [show ¬ ((2 : Int) = 0) from by decide, show ¬ ((2 : Int) = 1) from by decide, if_false, if_true]
    rw [List.foldl_cons, List.foldl_cons, List.foldl_nil, e1]
    simp [RS.take, RS.takeCommand, show ¬ b.toNat = 255 by omega, show ¬ b.toNat = 250 by omega, show 251 ≤ b.toNat by omega]
  · obtain ⟨b, rfl, hb⟩ := byte_of o (by omega) (by omega)
    have e3 : RS.take ⟨3, 0, 0, false, [], [], []⟩ b = wds b.toNat [] 4 [] [] := by simp [RS.take, wds]
    have hne : ¬ m = 0 ∧ ¬ m = 1 ∧ ¬ m = 2 ∧ ¬ m = 3 := by omega
    simp only [unread, RS.ofWr, hb]
    rw [if_neg hne.1, if_neg hne.2.1, if_neg hne.2.2.1, if_neg hne.2.2.2, List.foldl_cons, List.foldl_cons, List.foldl_cons, e1, e2, e3, List.foldl_append, esc_wds, List.nil_append]
    have hw : ∀ md : Int, wds b.toNat (if v = true then List.replicate 4097 120 else buf) md [] [] = ⟨md, 0, b.toNat, v, buf, [], []⟩ := fun md => by
      cases v with
      | true =>
        have hb0 := hv rfl
        subst hb0
        unfold wds
        rw [if_pos rfl, if_neg (by rw [List.length_replicate]; decide)]
      | false =>
        show wds b.toNat buf md [] [] = _
        unfold wds
        rw [if_pos hl]
    rcases hm with rfl | rfl
    · rw [if_pos rfl, List.foldl_nil, hw]
    · rw [if_neg (show ¬ (5 : Int) = 4 by decide), List.foldl_cons, List.foldl_nil, wds_iac _ _ _ _ _ (by rfl), hw]
theorem feed_unread (x : Wr) (s : List UInt8) (h : x.ok = true) : feed x s = feed zeroW (unread x ++ s) := by
  have e : feedTo zeroW (unread x ++ s) = feedTo x s := by
    unfold feedTo
    rw [List.foldl_append]
    have := unread_read x h
    rw [show RS.ofWr zeroW = at_ zeroW [] [] from rfl, this]
  rw [feed, feed, e]
end Go.Proofs.YtmcoliblkkploaaDoor
