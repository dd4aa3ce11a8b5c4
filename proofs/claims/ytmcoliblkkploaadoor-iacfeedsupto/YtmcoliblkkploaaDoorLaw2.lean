/-
  Plain laws of the reader's functions: a right wire stays right; how many bytes the tokens bear; no program in sight; no condition.
-/
import Derived.Test.YtmcoliblkkploaaDoorLaw
namespace Go.Proofs.YtmcoliblkkploaaDoor

theorem Wr.ok_iff (x : Wr) : x.ok = true ↔
    ((x.mode = 0 ∨ x.mode = 1 ∨ x.mode = 3) ∧ x.cmd = 0 ∧ x.opt = 0 ∧ x.buf = [] ∧ x.over = false) ∨
    (x.mode = 2 ∧ (251 ≤ x.cmd ∧ x.cmd ≤ 254) ∧ x.opt = 0 ∧ x.buf = [] ∧ x.over = false) ∨
    ((x.mode = 4 ∨ x.mode = 5) ∧ x.cmd = 0 ∧ (0 ≤ x.opt ∧ x.opt ≤ 255) ∧ (x.over = true → x.buf = []) ∧ x.buf.length ≤ 4096) := by
  obtain ⟨m, c, o, b, v⟩ := x
  unfold Wr.ok
  by_cases h1 : m = 0 ∨ m = 1 ∨ m = 3
  · have h2 : ¬ m = 2 := by omega
    have h3 : ¬ (m = 4 ∨ m = 5) := by omega
    simp [h1, h2, h3, Wr.eq]
  · by_cases h2 : m = 2
    · subst h2
      simp [Wr.eq]
    · by_cases h3 : m = 4 ∨ m = 5
      · cases v <;> simp [h1, h2, h3, areWords]
        intro _ _ _ h
        simp [h]
      · simp [h1, h2, h3]

theorem act_ok (x x1 : Wr) (c : UInt8) (dt : List UInt8) (h : x.ok = true) (e : act x c = .inl (x1, dt)) : x1.ok = true := by
  have hc := c.toNat_lt
  rw [Wr.ok_iff] at h ⊢
  obtain ⟨m, cm, op, bf, ov⟩ := x
  simp only at h
  unfold act at e
  simp only at e
  rcases h with ⟨hm, rfl, rfl, rfl, rfl⟩ | ⟨rfl, ⟨h1, h2⟩, rfl, rfl, rfl⟩ | ⟨hm, rfl, ⟨h1, h2⟩, h3, h4⟩
  · rcases hm with rfl | rfl | rfl
    · simp only [if_true] at e
      split at e <;> (simp only [Sum.inl.injEq, Prod.mk.injEq] at e; obtain ⟨rfl, _⟩ := e; simp)
    · simp only [if_true, show ¬ ((1 : Int) = 0) from by decide, if_false] at e
      repeat' split at e
      all_goals first
        | (simp only [Sum.inl.injEq, Prod.mk.injEq] at e; obtain ⟨rfl, _⟩ := e; simp; done)
        | (simp only [Sum.inl.injEq, Prod.mk.injEq] at e; obtain ⟨rfl, _⟩ := e; simp; omega)
        | (simp at e; done)
    · simp only [if_true, show ¬ ((3 : Int) = 0) from by decide, show ¬ ((3 : Int) = 1) from by decide, show ¬ ((3 : Int) = 2) from by decide, if_false] at e
      simp only [Sum.inl.injEq, Prod.mk.injEq] at e
      obtain ⟨rfl, _⟩ := e
      simp; omega
  · simp at e
  · have pw : ∀ m1 : Int, (m1 = 4 ∨ m1 = 5) → ∀ y, putW ⟨m1, 0, op, bf, ov⟩ c = y → (y.mode = 4 ∨ y.mode = 5) ∧ y.cmd = 0 ∧ (0 ≤ y.opt ∧ y.opt ≤ 255) ∧ (y.over = true → y.buf = []) ∧ y.buf.length ≤ 4096 := by
      intro m1 hm1 y hy
      unfold putW at hy
      simp only at hy
      split at hy
      · subst hy; exact ⟨hm1, rfl, ⟨h1, h2⟩, h3, h4⟩
      split at hy
      · subst hy; exact ⟨hm1, rfl, ⟨h1, h2⟩, fun _ => rfl, by simp⟩
      · subst hy; exact ⟨hm1, rfl, ⟨h1, h2⟩, fun h => by simp_all, by simp; omega⟩
    refine .inr (.inr ?_)
    rcases hm with rfl | rfl
    · simp only [if_true, show ¬ ((4 : Int) = 0) from by decide, show ¬ ((4 : Int) = 1) from by decide, show ¬ ((4 : Int) = 2) from by decide, show ¬ ((4 : Int) = 3) from by decide, if_false] at e
      split at e
      · simp only [Sum.inl.injEq, Prod.mk.injEq] at e
        obtain ⟨rfl, _⟩ := e
        exact ⟨.inr rfl, rfl, ⟨h1, h2⟩, h3, h4⟩
      · simp only [Sum.inl.injEq, Prod.mk.injEq] at e
        exact pw 4 (.inl rfl) _ e.1
    · simp only [if_true, show ¬ ((5 : Int) = 0) from by decide, show ¬ ((5 : Int) = 1) from by decide, show ¬ ((5 : Int) = 2) from by decide, show ¬ ((5 : Int) = 3) from by decide, show ¬ ((5 : Int) = 4) from by decide, if_false] at e
      split at e
      · simp only [Sum.inl.injEq, Prod.mk.injEq] at e
        exact pw 4 (.inl rfl) _ e.1
      · repeat' split at e
        all_goals (simp at e)

theorem take_ok (r : RS) (c : UInt8) (h : r.wire.ok = true) : (r.take c).wire.ok = true := by
  rw [take_act]
  cases e : act r.wire c with
  | inl p => obtain ⟨x1, dt⟩ := p; exact act_ok _ _ _ _ h e
  | inr t => rfl
theorem feedTo_ok (x : Wr) (s : List UInt8) (h : x.ok = true) : (feedTo x s).wire.ok = true := by
  have gen : ∀ (s : List UInt8) (r : RS), r.wire.ok = true → (s.foldl RS.take r).wire.ok = true := by
    intro s
    induction s with
    | nil => intro r h; exact h
    | cons c s ih => intro r h; exact ih _ (take_ok r c h)
  exact gen s _ h
theorem feed_ok (x : Wr) (s : List UInt8) (h : x.ok = true) : (feed x s).wire.ok = true := by
  rw [feed, flush_wire]; exact feedTo_ok x s h

def pot (r : RS) : Nat := dataSum r.toks + r.data.length + r.words.length
theorem dataSum_tail (d : List UInt8) : dataSum (tail d) = d.length := by
  unfold tail
  split
  · next h => subst h; rfl
  · simp [dataSum, D]
theorem putW_len (x : Wr) (c : UInt8) : (putW x c).buf.length ≤ x.buf.length + 1 := by
  unfold putW
  split
  · omega
  split
  · simp
  · simp
theorem act_len (x x1 : Wr) (c : UInt8) (dt : List UInt8) (e : act x c = .inl (x1, dt)) : dt.length + x1.buf.length ≤ x.buf.length + 1 := by
  have p1 := putW_len x c
  have p2 := putW_len { x with mode := 4 } c
  unfold act at e
  repeat' split at e
  all_goals first
    | (simp only [Sum.inl.injEq, Prod.mk.injEq] at e; obtain ⟨rfl, rfl⟩ := e; simp; done)
    | (simp only [Sum.inl.injEq, Prod.mk.injEq] at e; obtain ⟨rfl, rfl⟩ := e; simp at p1 p2 ⊢; omega)
    | (simp at e; done)
theorem take_pot (r : RS) (c : UInt8) : pot (r.take c) ≤ pot r + 1 := by
  rw [take_act]
  cases e : act r.wire c with
  | inl p =>
    obtain ⟨x1, dt⟩ := p
    have h := act_len _ _ _ _ e
    have hw : r.wire.buf = r.words := rfl
    rw [hw] at h
    simp only [RS.to, pot, List.length_append]
    omega
  | inr t =>
    have h := (act_tok _ _ _ e).2
    have hw : r.wire.buf = r.words := rfl
    rw [hw] at h
    have ht : t.data.length ≤ r.words.length := by rcases h with h | h <;> rw [h] <;> simp
    have e1 : dataSum [t] = t.data.length := by simp [dataSum]
    simp only [RS.to, pot, RS.tell, flush_toks_eq, dataSum_append, dataSum_tail, e1, List.length_nil]
    omega
theorem feed_pot (x : Wr) (s : List UInt8) : dataSum (feed x s).toks ≤ x.buf.length + s.length := by
  have gen : ∀ (s : List UInt8) (r : RS), pot (s.foldl RS.take r) ≤ pot r + s.length := by
    intro s
    induction s with
    | nil => intro r; simp
    | cons c s ih => intro r; have h1 := take_pot r c; have h2 := ih (r.take c); simp only [List.foldl_cons, List.length_cons]; omega
  have h := gen s (RS.ofWr x)
  have e : pot (RS.ofWr x) = x.buf.length := by simp [pot, RS.ofWr, dataSum]
  rw [e] at h
  have h2 : dataSum (feed x s).toks = dataSum (feedTo x s).toks + (feedTo x s).data.length := by rw [feed, flush_toks_eq, dataSum_append, dataSum_tail]
  have h3 : pot (feedTo x s) ≤ x.buf.length + s.length := h
  unfold pot at h3
  omega
theorem feed_count (x : Wr) (s : List UInt8) (hx : x.buf.length ≤ 4096) : (feed x s).toks.length ≤ 2 * s.length + 1 := by
  have h := (feedTo_sizes x hx s).2.1
  have h2 := flush_toks (feedTo x s)
  unfold feed
  omega
end Go.Proofs.YtmcoliblkkploaaDoor
