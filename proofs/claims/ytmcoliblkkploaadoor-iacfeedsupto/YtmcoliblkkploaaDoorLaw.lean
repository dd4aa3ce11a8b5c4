/-
  Plain laws of the reader's functions: no two data stand side by side, and none is empty; bytes that are cut give the same; no program in sight; no condition.
-/
import Derived.Test.YtmcoliblkkploaaDoorMrg
namespace Go.Proofs.YtmcoliblkkploaaDoor

def D (x : List UInt8) : Tk := ⟨1, 0, 0, x⟩
/-- no data at its front -/
def Fr : List Tk → Prop
  | [] => True
  | t :: _ => t.kind ≠ 1
/-- no two data side by side, none of them empty -/
def NF : List Tk → Prop
  | [] => True
  | t :: l => (t.kind = 1 → t.data ≠ [] ∧ Fr l) ∧ NF l

theorem rowLen_fr (l : List Tk) (h : Fr l) : rowLen l = 0 := by
  cases l with
  | nil => rfl
  | cons t l => rw [rowLen, if_neg h]

theorem merge_one (t : Tk) (l : List Tk) (hd : t.kind = 1 → t.data ≠ [] ∧ Fr l) : merge (t :: l) = t :: merge l := by
  by_cases hk : t.kind = 1
  · obtain ⟨h1, h2⟩ := hd hk
    rw [merge_row t l hk, rowLen_pos t l hk, rowLen_fr l h2]
    have e : joinRow ((t :: l).take (0 + 1)) = t := by
      obtain ⟨a, b, c, d⟩ := t
      simp [joinRow, joinTo, joinStep]
    rw [e, if_neg h1]
    simp
  · exact merge_other t l hk

theorem merge_NF : ∀ l : List Tk, NF l → merge l = l
  | [], _ => rfl
  | t :: l, h => by rw [merge_one t l h.1, merge_NF l h.2]

theorem merge_two : ∀ (A B : List Tk) (x y : List UInt8), NF (A ++ [D x]) → NF (D y :: B) → merge (A ++ D x :: D y :: B) = A ++ D (x ++ y) :: B
  | [], B, x, y, h1, h2 => by
    have hx : x ≠ [] := (h1.1 rfl).1
    have hB : Fr B := (h2.1 rfl).2
    rw [List.nil_append, merge_row _ _ rfl]
    have e0 : rowLen (D x :: D y :: B) = 2 := by rw [rowLen_pos _ _ rfl, rowLen_pos _ _ rfl, rowLen_fr B hB]
    rw [e0]
    have e : joinRow ((D x :: D y :: B).take 2) = D (x ++ y) := by
      simp [joinRow, joinTo, joinStep, D, hx]
    rw [e, if_neg (by simp [D, hx])]
    simp [merge_NF B h2.2]
  | t :: A, B, x, y, h1, h2 => by
    have hfr : t.kind = 1 → t.data ≠ [] ∧ Fr (A ++ D x :: D y :: B) := fun hk => by
      obtain ⟨a, b⟩ := h1.1 hk
      refine ⟨a, ?_⟩
      cases A with
      | nil => exact absurd rfl b
      | cons u A => exact b
    rw [List.cons_append, merge_one t _ hfr, merge_two A B x y h1.2 h2]
    rfl

/-- no data at its end -/
def En (l : List Tk) : Prop := ∀ t, l.getLast? = some t → t.kind ≠ 1
theorem NF_snoc : ∀ (l : List Tk) (t : Tk), NF l → t.kind ≠ 1 → NF (l ++ [t])
  | [], t, _, ht => ⟨fun h => absurd h ht, trivial⟩
  | u :: l, t, h, ht => by
    refine ⟨fun hk => ?_, NF_snoc l t h.2 ht⟩
    obtain ⟨a, b⟩ := h.1 hk
    refine ⟨a, ?_⟩
    cases l with
    | nil => exact ht
    | cons v l => exact b
theorem NF_data : ∀ (l : List Tk) (x : List UInt8), NF l → En l → x ≠ [] → NF (l ++ [D x])
  | [], x, _, _, hx => ⟨fun _ => ⟨hx, trivial⟩, trivial⟩
  | u :: l, x, h, he, hx => by
    refine ⟨fun hk => ?_, NF_data l x h.2 (fun t ht => he t ?_) hx⟩
    · obtain ⟨a, b⟩ := h.1 hk
      refine ⟨a, ?_⟩
      cases l with
      | nil => exact absurd hk (he u rfl)
      | cons v l => exact b
    · cases l with
      | nil => simp at ht
      | cons v l => simpa [List.getLast?_cons_cons] using ht
theorem En_snoc (l : List Tk) (t : Tk) (h : t.kind ≠ 1) : En (l ++ [t]) := by
  intro u hu
  simp at hu
  subst hu
  exact h

def tail (d : List UInt8) : List Tk := if d = [] then [] else [D d]
theorem flush_toks_eq (r : RS) : r.flush.toks = r.toks ++ tail r.data := by
  unfold RS.flush tail
  split
  · simp
  · rfl
def Pr (l : List Tk) : Prop := ∀ t ∈ l, t.kind = 1 → t = D t.data
def Nice (r : RS) : Prop := NF r.toks ∧ En r.toks ∧ Pr r.toks
theorem Nice.flush {r : RS} (h : Nice r) : NF r.flush.toks := by
  rw [flush_toks_eq]
  unfold tail
  split
  · simpa using h.1
  · exact NF_data _ _ h.1 h.2.1 ‹_›
theorem Pr_tail (d : List UInt8) : Pr (tail d) := by
  intro t ht _
  unfold tail at ht
  split at ht
  · cases ht
  · simp at ht; subst ht; rfl
theorem Pr_append {l m : List Tk} (h1 : Pr l) (h2 : Pr m) : Pr (l ++ m) := fun t ht hk => by
  rcases List.mem_append.1 ht with h | h
  · exact h1 t h hk
  · exact h2 t h hk
theorem Nice.tell {r : RS} (h : Nice r) (t : Tk) (ht : t.kind ≠ 1) : Nice (r.tell t) :=
  ⟨NF_snoc _ _ h.flush ht, En_snoc _ _ ht, Pr_append (by rw [flush_toks_eq]; exact Pr_append h.2.2 (Pr_tail _)) (fun u hu hk => by simp at hu; subst hu; exact absurd hk ht)⟩

/-- what a byte does to a wire: another wire, and what is data; or a token -/
def putW (x : Wr) (c : UInt8) : Wr := if x.over = true then x else if x.buf.length = 4096 then { x with buf := [], over := true } else { x with buf := x.buf ++ [c] }
def act (x : Wr) (c : UInt8) : Sum (Wr × List UInt8) Tk :=
  if x.mode = 0 then (if c.toNat = 255 then .inl ({ x with mode := 1 }, []) else .inl (x, [c]))
  else if x.mode = 1 then
    (if c.toNat = 255 then .inl ({ x with mode := 0 }, [c])
    else if c.toNat = 250 then .inl ({ x with mode := 3 }, [])
    else if 251 ≤ c.toNat then .inl ({ x with mode := 2, cmd := c.toNat }, [])
    else if 240 ≤ c.toNat then .inr ⟨2, c.toNat, 0, []⟩
    else .inr ⟨5, c.toNat, 0, []⟩)
  else if x.mode = 2 then .inr ⟨3, x.cmd, c.toNat, []⟩
  else if x.mode = 3 then .inl ({ x with mode := 4, opt := c.toNat }, [])
  else if x.mode = 4 then (if c.toNat = 255 then .inl ({ x with mode := 5 }, []) else .inl (putW x c, []))
  else if x.mode = 5 then
    (if c.toNat = 255 then .inl (putW { x with mode := 4 } c, [])
    else if c.toNat ≠ 240 then .inr ⟨5, c.toNat, x.opt, []⟩
    else if x.over = true then .inr ⟨5, 250, x.opt, []⟩
    else .inr ⟨4, 0, x.opt, x.buf⟩)
  else .inl (x, [])
def RS.to (r : RS) (a : Sum (Wr × List UInt8) Tk) : RS := match a with
  | .inl (x, dt) => ⟨x.mode, x.cmd, x.opt, x.over, x.buf, r.data ++ dt, r.toks⟩
  | .inr t => r.tell t

theorem putWord_to (r : RS) (c : UInt8) : r.putWord c = r.to (.inl (putW r.wire c, [])) := by
  unfold RS.putWord putW
  by_cases h1 : r.over = true
  · simp [RS.wire, RS.to, h1]
    obtain ⟨a, b, c', d, e, f, g⟩ := r
    simp at h1
    simp [h1]
  · by_cases h2 : r.words.length = 4096
    · simp [RS.wire, RS.to, h1, h2]
    · simp [RS.wire, RS.to, h1, h2]
theorem take_act (r : RS) (c : UInt8) : r.take c = r.to (act r.wire c) := by
  have em : r.wire.mode = r.mode := rfl
  by_cases m0 : r.mode = 0
  · rw [RS.take, if_pos m0, act, em, if_pos m0, RS.takeByte]
    by_cases h : c.toNat = 255 <;> simp [h, RS.to, RS.wire]
  rw [RS.take, if_neg m0, act, em, if_neg m0]
  by_cases m1 : r.mode = 1
  · rw [if_pos m1, if_pos m1, RS.takeCommand]
    by_cases h1 : c.toNat = 255
    · simp [h1, RS.to, RS.wire]
    by_cases h2 : c.toNat = 250
    · simp [h2, RS.to, RS.wire]
    by_cases h3 : 251 ≤ c.toNat
    · simp [h1, h2, h3, RS.to, RS.wire]
    by_cases h4 : 240 ≤ c.toNat
    · simp [h1, h2, h3, h4, RS.to]
    · simp [h1, h2, h3, h4, RS.to]
  rw [if_neg m1, if_neg m1]
  by_cases m2 : r.mode = 2
  · rw [if_pos m2, if_pos m2]; rfl
  rw [if_neg m2, if_neg m2]
  by_cases m3 : r.mode = 3
  · rw [if_pos m3, if_pos m3]; simp [RS.to, RS.wire]
  rw [if_neg m3, if_neg m3]
  by_cases m4 : r.mode = 4
  · rw [if_pos m4, if_pos m4, RS.takeWord]
    by_cases h : c.toNat = 255
    · simp [h, RS.to, RS.wire]
    · rw [if_neg h, if_neg h]; exact putWord_to r c
  rw [if_neg m4, if_neg m4]
  by_cases m5 : r.mode = 5
  · rw [if_pos m5, if_pos m5, RS.takeWordsCommand]
    by_cases h : c.toNat = 255
    · rw [if_pos h, if_pos h]; exact putWord_to { r with mode := 4 } c
    rw [if_neg h, if_neg h]
    by_cases h2 : c.toNat ≠ 240
    · rw [if_pos h2, if_pos h2]; rfl
    rw [if_neg h2, if_neg h2]
    have eo : r.wire.over = r.over := rfl
    rw [eo]
    by_cases h3 : r.over = true
    · rw [if_pos h3, if_pos h3]; rfl
    · rw [if_neg h3, if_neg h3]; rfl
  rw [if_neg m5, if_neg m5]
  simp [RS.to, RS.wire]

theorem act_tok (x : Wr) (c : UInt8) (t : Tk) (h : act x c = .inr t) : t.kind ≠ 1 ∧ (t.data = [] ∨ t.data = x.buf) := by
  unfold act at h
  repeat' split at h
  all_goals (first | (simp at h; done) | (simp only [Sum.inr.injEq] at h; subst h; exact ⟨by simp, by simp⟩))

theorem Nice.take {r : RS} (h : Nice r) (c : UInt8) : Nice (r.take c) := by
  rw [take_act]
  cases e : act r.wire c with
  | inl p => exact h
  | inr t => exact h.tell t (act_tok _ _ _ e).1
theorem Nice.feedTo (x : Wr) (s : List UInt8) : Nice (feedTo x s) := by
  have gen : ∀ (s : List UInt8) (r : RS), Nice r → Nice (s.foldl RS.take r) := by
    intro s
    induction s with
    | nil => intro r h; exact h
    | cons c s ih => intro r h; exact ih _ (h.take c)
  exact gen s _ ⟨trivial, fun t ht => by simp [RS.ofWr] at ht, fun t ht => by simp [RS.ofWr] at ht⟩
theorem feed_NF (x : Wr) (s : List UInt8) : NF (feed x s).toks := (Nice.feedTo x s).flush
theorem feed_merge (x : Wr) (s : List UInt8) : merge (feed x s).toks = (feed x s).toks := merge_NF _ (feed_NF x s)

/-- a reader behind tokens t1 and data d1, of which another knows nothing -/
def glue (t1 : List Tk) (d1 : List UInt8) : List Tk → List UInt8 → List Tk × List UInt8
  | [], e => (t1, d1 ++ e)
  | t :: u, e => if t.kind = 1 then (t1 ++ D (d1 ++ t.data) :: u, e) else (t1 ++ tail d1 ++ t :: u, e)
def over (t1 : List Tk) (d1 : List UInt8) (r : RS) : RS := { r with toks := (glue t1 d1 r.toks r.data).1, data := (glue t1 d1 r.toks r.data).2 }

theorem over_tell (t1 : List Tk) (d1 : List UInt8) (r : RS) (t : Tk) (ht : t.kind ≠ 1) : (over t1 d1 r).tell t = over t1 d1 (r.tell t) := by
  obtain ⟨m, cm, op, ov, wd, e, u⟩ := r
  simp only [RS.tell, over, RS.mk.injEq, true_and, flush_toks_eq]
  cases u with
  | nil =>
    by_cases he : e = []
    · subst he
      simp [glue, tail, ht]
    · have h1 : d1 ++ e ≠ [] := by simp [he]
      simp [glue, tail, he, D]
  | cons v u =>
    by_cases hv : v.kind = 1 <;> simp [glue, hv]

theorem over_take (t1 : List Tk) (d1 : List UInt8) (r : RS) (c : UInt8) : (over t1 d1 r).take c = over t1 d1 (r.take c) := by
  rw [take_act, take_act]
  have ew : (over t1 d1 r).wire = r.wire := rfl
  rw [ew]
  cases e : act r.wire c with
  | inl p =>
    obtain ⟨x, dt⟩ := p
    obtain ⟨m, cm, op, ov, wd, dd, u⟩ := r
    cases u with
    | nil => simp [RS.to, over, glue]
    | cons v u => by_cases hv : v.kind = 1 <;> simp [RS.to, over, glue, hv]
  | inr t => exact over_tell t1 d1 r t (act_tok _ _ _ e).1

theorem over_all (t1 : List Tk) (d1 : List UInt8) : ∀ (s : List UInt8) (r : RS), s.foldl RS.take (over t1 d1 r) = over t1 d1 (s.foldl RS.take r)
  | [], _ => rfl
  | c :: s, r => by rw [List.foldl_cons, List.foldl_cons, over_take, over_all t1 d1 s]

theorem feedTo_append (x : Wr) (a b : List UInt8) : feedTo x (a ++ b) = over (feedTo x a).toks (feedTo x a).data (feedTo (feedTo x a).wire b) := by
  unfold feedTo
  rw [List.foldl_append, ← over_all]
  congr 1
  simp [over, RS.ofWr, glue, RS.wire]

theorem flush_wire (r : RS) : r.flush.wire = r.wire := by unfold RS.flush; split <;> rfl

theorem NF_append_fr : ∀ (A B : List Tk), NF A → NF B → Fr B → NF (A ++ B)
  | [], _, _, hB, _ => hB
  | v :: A, B, hA, hB, hF => by
    refine ⟨fun hk => ?_, NF_append_fr A B hA.2 hB hF⟩
    obtain ⟨a, b⟩ := hA.1 hk
    refine ⟨a, ?_⟩
    cases A with
    | nil => exact hF
    | cons w A => exact b
theorem NF_append_en : ∀ (A B : List Tk), NF A → En A → NF B → NF (A ++ B)
  | [], _, _, _, hB => hB
  | v :: A, B, hA, hE, hB => by
    refine ⟨fun hk => ?_, NF_append_en A B hA.2 (fun t ht => hE t ?_) hB⟩
    · obtain ⟨a, b⟩ := hA.1 hk
      refine ⟨a, ?_⟩
      cases A with
      | nil => exact absurd hk (hE v rfl)
      | cons w A => exact b
    · cases A with
      | nil => simp at ht
      | cons w A => simpa [List.getLast?_cons_cons] using ht

theorem glue_merge (t1 u : List Tk) (d1 e : List UInt8) (h1 : NF t1) (h1' : En t1) (h2 : NF u) (h2' : En u) (hp : Pr u) : merge ((t1 ++ tail d1) ++ (u ++ tail e)) = (glue t1 d1 u e).1 ++ tail (glue t1 d1 u e).2 := by
  have nf2 : NF (u ++ tail e) := by
    unfold tail
    split
    · simpa using h2
    · exact NF_data _ _ h2 h2' ‹_›
  have e0 : tail [] = [] := rfl
  by_cases hd : d1 = []
  · subst hd
    rw [e0, List.append_nil, merge_NF _ (NF_append_en t1 _ h1 h1' nf2)]
    cases u with
    | nil => simp [glue]
    | cons v u =>
      by_cases hv : v.kind = 1
      · have := hp v (by simp) hv
        simp [glue, hv, ← this]
      · simp [glue, hv, e0]
  · have ed : tail d1 = [D d1] := by simp [tail, hd]
    have nf1 : NF (t1 ++ [D d1]) := NF_data t1 d1 h1 h1' hd
    rw [ed]
    cases u with
    | nil =>
      by_cases he : e = []
      · subst he
        rw [e0, List.append_nil, List.append_nil, merge_NF _ nf1]
        simp [glue, ed]
      · have ee : tail e = [D e] := by simp [tail, he]
        rw [ee, List.nil_append, List.append_assoc]
        rw [show [D d1] ++ [D e] = D d1 :: D e :: [] from rfl, merge_two t1 [] d1 e nf1 ⟨fun _ => ⟨he, trivial⟩, trivial⟩]
        simp [glue, tail, hd]
    | cons v u =>
      by_cases hv : v.kind = 1
      · obtain ⟨y, rfl⟩ : ∃ y, v = D y := ⟨v.data, hp v (by simp) hv⟩
        have e2 : (t1 ++ [D d1]) ++ (D y :: u ++ tail e) = t1 ++ D d1 :: D y :: (u ++ tail e) := by simp
        rw [e2, merge_two t1 (u ++ tail e) d1 y nf1 nf2]
        simp [glue, D]
      · rw [merge_NF _ (NF_append_fr _ _ nf1 nf2 hv)]
        simp [glue, hv, ed]

/-- bytes that are cut: the same wire, the same tokens -/
theorem feed_cut (x : Wr) (a b : List UInt8) : (feed (feed x a).wire b).wire = (feed x (a ++ b)).wire ∧ merge ((feed x a).toks ++ (feed (feed x a).wire b).toks) = (feed x (a ++ b)).toks := by
  have ew : (feed x a).wire = (feedTo x a).wire := flush_wire _
  rw [ew]
  have hA := Nice.feedTo x a
  have hB := Nice.feedTo (feedTo x a).wire b
  have hap := feedTo_append x a b
  refine ⟨?_, ?_⟩
  · rw [feed, feed, flush_wire, flush_wire, hap]; rfl
  · rw [feed, feed, feed, flush_toks_eq, flush_toks_eq, flush_toks_eq, hap, glue_merge _ _ _ _ hA.1 hA.2.1 hB.1 hB.2.1 hB.2.2]
    rfl
end Go.Proofs.YtmcoliblkkploaaDoor
