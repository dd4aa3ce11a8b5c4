/-
  Plain laws: a token's text is read as the token; behind 255, 240, 255, 240, 255, 241 a right wire is at rest; no program in sight; no condition.
-/
import Derived.Test.YtmcoliblkkploaaDoorLaw2
import Derived.Test.YtmcoliblkkploaaDoorWrite
namespace Go.Proofs.YtmcoliblkkploaaDoor

theorem rest_data : ∀ (s d : List UInt8) (ts : List Tk), (esc s).foldl RS.take ⟨0, 0, 0, false, [], d, ts⟩ = ⟨0, 0, 0, false, [], d ++ s, ts⟩
  | [], d, ts => by simp [esc]
  | b :: l, d, ts => by
    rw [esc]
    by_cases hb : b.toNat = 255
    · rw [if_pos hb]
      have e1 : RS.take ⟨0, 0, 0, false, [], d, ts⟩ b = ⟨1, 0, 0, false, [], d, ts⟩ := by simp [RS.take, RS.takeByte, hb]
      have e2 : RS.take ⟨1, 0, 0, false, [], d, ts⟩ b = ⟨0, 0, 0, false, [], d ++ [b], ts⟩ := by simp [RS.take, RS.takeCommand, hb]
      rw [List.foldl_cons, List.foldl_cons, e1, e2, rest_data l (d ++ [b]) ts]
      simp
    · rw [if_neg hb]
      have e1 : RS.take ⟨0, 0, 0, false, [], d, ts⟩ b = ⟨0, 0, 0, false, [], d ++ [b], ts⟩ := by simp [RS.take, RS.takeByte, hb]
      rw [List.foldl_cons, e1, rest_data l (d ++ [b]) ts]
      simp

theorem rest_words (o : Int) : ∀ (s ws d : List UInt8) (ts : List Tk), ws.length + s.length ≤ 4096 → (esc s).foldl RS.take ⟨4, 0, o, false, ws, d, ts⟩ = ⟨4, 0, o, false, ws ++ s, d, ts⟩
  | [], ws, d, ts, _ => by simp [esc]
  | b :: l, ws, d, ts, h => by
    simp only [List.length_cons] at h
    have hw : ¬ ws.length = 4096 := by omega
    rw [esc]
    by_cases hb : b.toNat = 255
    · rw [if_pos hb]
      have e1 : RS.take ⟨4, 0, o, false, ws, d, ts⟩ b = ⟨5, 0, o, false, ws, d, ts⟩ := by simp [RS.take, RS.takeWord, hb]
      have e2 : RS.take ⟨5, 0, o, false, ws, d, ts⟩ b = ⟨4, 0, o, false, ws ++ [b], d, ts⟩ := by simp [RS.take, RS.takeWordsCommand, RS.putWord, hb, hw]
      rw [List.foldl_cons, List.foldl_cons, e1, e2, rest_words o l (ws ++ [b]) d ts (by simp; omega)]
      simp
    · rw [if_neg hb]
      have e1 : RS.take ⟨4, 0, o, false, ws, d, ts⟩ b = ⟨4, 0, o, false, ws ++ [b], d, ts⟩ := by simp [RS.take, RS.takeWord, RS.putWord, hb, hw]
      rw [List.foldl_cons, e1, rest_words o l (ws ++ [b]) d ts (by simp; omega)]
      simp

/-- what reading a token's text does to a reader at rest -/
def gain (r : RS) (t : Tk) : RS := if t.kind = 1 then { r with data := r.data ++ t.data } else r.tell t
def Calm (r : RS) : Prop := r.mode = 0 ∧ r.cmd = 0 ∧ r.opt = 0 ∧ r.over = false ∧ r.words = []
theorem Calm.gain {r : RS} (h : Calm r) (t : Tk) : Calm (gain r t) := by
  unfold Go.Proofs.YtmcoliblkkploaaDoor.gain
  split
  · exact h
  · exact ⟨rfl, rfl, rfl, rfl, rfl⟩

theorem read_text (t : Tk) (h : (text t).2 = 0) (r : RS) (hr : Calm r) : (text t).1.foldl RS.take r = gain r t := by
  obtain ⟨m, c, o, v, ws, d, ts⟩ := r
  obtain ⟨rfl, rfl, rfl, rfl, rfl⟩ : m = 0 ∧ c = 0 ∧ o = 0 ∧ v = false ∧ ws = [] := hr
  obtain ⟨kd, cm, op, dt⟩ := t
  unfold text at h ⊢
  cases hw : writable ⟨kd, cm, op, dt⟩ with
  | false => rw [hw] at h; simp at h
  | true =>
    rw [hw] at h
    simp only [if_true] at h ⊢
    unfold writable at hw
    simp only at hw
    by_cases h1 : kd = 1
    · subst h1
      simp [Tk.eq] at hw
      simp only [show ¬ ((1 : Int) = 2) from by decide, show ¬ ((1 : Int) = 3) from by decide, show ¬ ((1 : Int) = 4) from by decide, if_false]
      rw [rest_data]
      simp [gain]
    rw [if_neg h1] at hw
    by_cases h2 : kd = 2
    · subst h2
      simp [Tk.eq] at hw
      obtain ⟨⟨q1, q2⟩, rfl, rfl⟩ := hw
      obtain ⟨b, rfl, hb⟩ := byte_of cm (by omega) (by omega)
      simp only [if_true, hb]
      have n1 : ¬ b.toNat = 255 := by omega
      have n2 : ¬ b.toNat = 250 := by omega
      have n3 : ¬ 251 ≤ b.toNat := by omega
      have n4 : 240 ≤ b.toNat := by omega
      have e1 : RS.take ⟨0, 0, 0, false, [], d, ts⟩ 255 = ⟨1, 0, 0, false, [], d, ts⟩ := by simp [RS.take, RS.takeByte]
      have e2 : RS.take ⟨1, 0, 0, false, [], d, ts⟩ b = RS.tell ⟨1, 0, 0, false, [], d, ts⟩ ⟨2, b.toNat, 0, []⟩ := by simp [RS.take, RS.takeCommand, n1, n2, n3, n4]
      rw [List.foldl_cons, List.foldl_cons, List.foldl_nil, e1, e2, gain, if_neg (by simp)]
      simp [RS.tell, flush_toks_eq]
    rw [if_neg h2] at hw
    by_cases h3 : kd = 3
    · subst h3
      simp [Tk.eq] at hw
      obtain ⟨⟨q1, q2⟩, ⟨q3, q4⟩, rfl⟩ := hw
      obtain ⟨b, rfl, hb⟩ := byte_of cm (by omega) (by omega)
      obtain ⟨o, rfl, ho⟩ := byte_of op (by omega) (by omega)
      simp only [show ¬ ((3 : Int) = 2) from by decide, if_false, if_true, hb, ho]
      have n1 : ¬ b.toNat = 255 := by omega
      have n2 : ¬ b.toNat = 250 := by omega
      have n3 : 251 ≤ b.toNat := by omega
      have e1 : RS.take ⟨0, 0, 0, false, [], d, ts⟩ 255 = ⟨1, 0, 0, false, [], d, ts⟩ := by simp [RS.take, RS.takeByte]
      have e2 : RS.take ⟨1, 0, 0, false, [], d, ts⟩ b = ⟨2, b.toNat, 0, false, [], d, ts⟩ := by simp [RS.take, RS.takeCommand, n1, n2, n3]
      have e3 : RS.take ⟨2, b.toNat, 0, false, [], d, ts⟩ o = RS.tell ⟨2, b.toNat, 0, false, [], d, ts⟩ ⟨3, b.toNat, o.toNat, []⟩ := by simp [RS.take]
      rw [List.foldl_cons, List.foldl_cons, List.foldl_cons, List.foldl_nil, e1, e2, e3, gain, if_neg (by simp)]
      simp [RS.tell, flush_toks_eq]
    rw [if_neg h3] at hw
    by_cases h4 : kd = 4
    · subst h4
      simp [Tk.eq] at hw
      obtain ⟨⟨q3, q4⟩, rfl⟩ := hw
      obtain ⟨o, rfl, ho⟩ := byte_of op (by omega) (by omega)
      simp only [show ¬ ((4 : Int) = 2) from by decide, show ¬ ((4 : Int) = 3) from by decide, if_false, if_true, ho] at h ⊢
      by_cases hl : 4096 < dt.length
      · rw [if_pos hl] at h; simp at h
      rw [if_neg hl]
      simp only
      have e1 : RS.take ⟨0, 0, 0, false, [], d, ts⟩ 255 = ⟨1, 0, 0, false, [], d, ts⟩ := by simp [RS.take, RS.takeByte]
      have e2 : RS.take ⟨1, 0, 0, false, [], d, ts⟩ 250 = ⟨3, 0, 0, false, [], d, ts⟩ := by simp [RS.take, RS.takeCommand]
      have e3 : RS.take ⟨3, 0, 0, false, [], d, ts⟩ o = ⟨4, 0, o.toNat, false, [], d, ts⟩ := by simp [RS.take]
      have e4 : RS.take ⟨4, 0, o.toNat, false, dt, d, ts⟩ 255 = ⟨5, 0, o.toNat, false, dt, d, ts⟩ := by simp [RS.take, RS.takeWord]
      have e5 : RS.take ⟨5, 0, o.toNat, false, dt, d, ts⟩ 240 = RS.tell ⟨5, 0, o.toNat, false, dt, d, ts⟩ ⟨4, 0, o.toNat, dt⟩ := by simp [RS.take, RS.takeWordsCommand]
      rw [List.foldl_cons, List.foldl_cons, List.foldl_cons, e1, e2, e3, List.foldl_append, rest_words o.toNat dt [] d ts (by simp; omega), List.nil_append, List.foldl_cons, List.foldl_cons, List.foldl_nil, e4, e5, gain, if_neg (by simp)]
      simp [RS.tell, flush_toks_eq]
    rw [if_neg h4] at hw
    cases hw

/-- behind the six bytes -/
theorem six (r : RS) (h : r.wire.ok = true) : ∃ ts, [255, 240, 255, 240, 255, 241].foldl RS.take r = ⟨0, 0, 0, false, [], [], ts ++ [⟨2, 241, 0, []⟩]⟩ := by
  have done : ∀ (d : List UInt8) (ts : List Tk), [255, 241].foldl RS.take ⟨0, 0, 0, false, [], d, ts⟩ = ⟨0, 0, 0, false, [], [], (ts ++ tail d) ++ [⟨2, 241, 0, []⟩]⟩ := by
    intro d ts
    have e1 : RS.take ⟨0, 0, 0, false, [], d, ts⟩ 255 = ⟨1, 0, 0, false, [], d, ts⟩ := by simp [RS.take, RS.takeByte]
    have e2 : RS.take ⟨1, 0, 0, false, [], d, ts⟩ 241 = RS.tell ⟨1, 0, 0, false, [], d, ts⟩ ⟨2, 241, 0, []⟩ := by simp [RS.take, RS.takeCommand]
    rw [List.foldl_cons, List.foldl_cons, List.foldl_nil, e1, e2]
    simp [RS.tell, flush_toks_eq]
  have split : [255, 240, 255, 240, 255, 241] = ([255, 240, 255, 240] ++ [255, 241] : List UInt8) := rfl
  rw [split, List.foldl_append]
  suffices hs : ∃ d ts, [255, 240, 255, 240].foldl RS.take r = ⟨0, 0, 0, false, [], d, ts⟩ by
    obtain ⟨d, ts, e⟩ := hs
    rw [e]
    exact ⟨_, done d ts⟩
  have told : ∀ (q : RS) (t : Tk), ∃ ts, q.tell t = ⟨0, 0, 0, false, [], [], ts⟩ := fun q t => ⟨_, rfl⟩
  have s0 : ∀ d ts, RS.take ⟨0, 0, 0, false, [], d, ts⟩ 255 = ⟨1, 0, 0, false, [], d, ts⟩ := fun d ts => by simp [RS.take, RS.takeByte]
  have s1 : ∀ d ts, RS.take ⟨1, 0, 0, false, [], d, ts⟩ 240 = RS.tell ⟨1, 0, 0, false, [], d, ts⟩ ⟨2, 240, 0, []⟩ := fun d ts => by simp [RS.take, RS.takeCommand]
  have two : ∀ (d : List UInt8) (ts : List Tk), ∃ ts', [255, 240].foldl RS.take ⟨0, 0, 0, false, [], d, ts⟩ = ⟨0, 0, 0, false, [], [], ts'⟩ := by
    intro d ts
    rw [List.foldl_cons, List.foldl_cons, List.foldl_nil, s0, s1]
    exact told _ _
  have split2 : [255, 240, 255, 240] = ([255, 240] ++ [255, 240] : List UInt8) := rfl
  obtain ⟨m, c, o, v, ws, d, ts⟩ := r
  rw [Wr.ok_iff] at h
  simp only [RS.wire] at h
  rcases h with ⟨hm, rfl, rfl, rfl, rfl⟩ | ⟨rfl, _, rfl, rfl, rfl⟩ | ⟨hm, rfl, _, _, _⟩
  · rcases hm with rfl | rfl | rfl
    · obtain ⟨ts', e⟩ := two d ts
      rw [split2, List.foldl_append, e]
      obtain ⟨ts'', e2⟩ := two [] ts'
      exact ⟨_, _, e2⟩
    · have e1 : RS.take ⟨1, 0, 0, false, [], d, ts⟩ 255 = ⟨0, 0, 0, false, [], d ++ [255], ts⟩ := by simp [RS.take, RS.takeCommand]
      have e2 : RS.take ⟨0, 0, 0, false, [], d ++ [255], ts⟩ 240 = ⟨0, 0, 0, false, [], d ++ [255] ++ [240], ts⟩ := by simp [RS.take, RS.takeByte]
      have e12 : [255, 240].foldl RS.take ⟨1, 0, 0, false, [], d, ts⟩ = ⟨0, 0, 0, false, [], d ++ [255] ++ [240], ts⟩ := by rw [List.foldl_cons, List.foldl_cons, List.foldl_nil, e1, e2]
      rw [split2, List.foldl_append, e12]
      obtain ⟨ts'', e3⟩ := two (d ++ [255] ++ [240]) ts
      exact ⟨_, _, e3⟩
    · have e1 : RS.take ⟨3, 0, 0, false, [], d, ts⟩ 255 = ⟨4, 0, 255, false, [], d, ts⟩ := by simp [RS.take]
      have e2 : RS.take ⟨4, 0, 255, false, [], d, ts⟩ 240 = ⟨4, 0, 255, false, [240], d, ts⟩ := by simp [RS.take, RS.takeWord, RS.putWord]
      have e3 : RS.take ⟨4, 0, 255, false, [240], d, ts⟩ 255 = ⟨5, 0, 255, false, [240], d, ts⟩ := by simp [RS.take, RS.takeWord]
      have e4 : RS.take ⟨5, 0, 255, false, [240], d, ts⟩ 240 = RS.tell ⟨5, 0, 255, false, [240], d, ts⟩ ⟨4, 0, 255, [240]⟩ := by simp [RS.take, RS.takeWordsCommand]
      rw [List.foldl_cons, List.foldl_cons, List.foldl_cons, List.foldl_cons, List.foldl_nil, e1, e2, e3, e4]
      exact ⟨_, told _ _⟩
  · have e1 : RS.take ⟨2, c, 0, false, [], d, ts⟩ 255 = RS.tell ⟨2, c, 0, false, [], d, ts⟩ ⟨3, c, 255, []⟩ := by simp [RS.take]
    obtain ⟨t1, h1⟩ := told ⟨2, c, 0, false, [], d, ts⟩ ⟨3, c, 255, []⟩
    have e2 : RS.take ⟨0, 0, 0, false, [], [], t1⟩ 240 = ⟨0, 0, 0, false, [], [240], t1⟩ := by simp [RS.take, RS.takeByte]
    have e12 : [255, 240].foldl RS.take ⟨2, c, 0, false, [], d, ts⟩ = ⟨0, 0, 0, false, [], [240], t1⟩ := by rw [List.foldl_cons, List.foldl_cons, List.foldl_nil, e1, h1, e2]
    rw [split2, List.foldl_append, e12]
    obtain ⟨ts'', e3⟩ := two [240] t1
    exact ⟨_, _, e3⟩
  · have pw : ∀ (q : RS) (b : UInt8), ∃ v' ws', q.putWord b = { q with over := v', words := ws' } := by
      intro q b
      unfold RS.putWord
      split
      · exact ⟨_, _, rfl⟩
      split <;> exact ⟨_, _, rfl⟩
    have five : ∀ v ws, ∃ ts', [255, 240].foldl RS.take ⟨4, 0, o, v, ws, d, ts⟩ = ⟨0, 0, 0, false, [], [], ts'⟩ := by
      intro v ws
      have e1 : RS.take ⟨4, 0, o, v, ws, d, ts⟩ 255 = ⟨5, 0, o, v, ws, d, ts⟩ := by simp [RS.take, RS.takeWord]
      rw [List.foldl_cons, List.foldl_cons, List.foldl_nil, e1]
      cases v with
      | true =>
        have e2 : RS.take ⟨5, 0, o, true, ws, d, ts⟩ 240 = RS.tell ⟨5, 0, o, true, ws, d, ts⟩ ⟨5, 250, o, []⟩ := by simp [RS.take, RS.takeWordsCommand]
        rw [e2]; exact told _ _
      | false =>
        have e2 : RS.take ⟨5, 0, o, false, ws, d, ts⟩ 240 = RS.tell ⟨5, 0, o, false, ws, d, ts⟩ ⟨4, 0, o, ws⟩ := by simp [RS.take, RS.takeWordsCommand]
        rw [e2]; exact told _ _
    rcases hm with rfl | rfl
    · obtain ⟨ts', e⟩ := five v ws
      rw [split2, List.foldl_append, e]
      obtain ⟨ts'', e2⟩ := two [] ts'
      exact ⟨_, _, e2⟩
    · obtain ⟨v1, w1, p1⟩ := pw ⟨4, 0, o, v, ws, d, ts⟩ 255
      have e1 : RS.take ⟨5, 0, o, v, ws, d, ts⟩ 255 = ⟨4, 0, o, v1, w1, d, ts⟩ := by
        have : RS.take ⟨5, 0, o, v, ws, d, ts⟩ 255 = RS.putWord ⟨4, 0, o, v, ws, d, ts⟩ 255 := by simp [RS.take, RS.takeWordsCommand]
        rw [this, p1]
      obtain ⟨v2, w2, p2⟩ := pw ⟨4, 0, o, v1, w1, d, ts⟩ 240
      have e2 : RS.take ⟨4, 0, o, v1, w1, d, ts⟩ 240 = ⟨4, 0, o, v2, w2, d, ts⟩ := by
        have : RS.take ⟨4, 0, o, v1, w1, d, ts⟩ 240 = RS.putWord ⟨4, 0, o, v1, w1, d, ts⟩ 240 := by simp [RS.take, RS.takeWord]
        rw [this, p2]
      have e12 : [255, 240].foldl RS.take ⟨5, 0, o, v, ws, d, ts⟩ = ⟨4, 0, o, v2, w2, d, ts⟩ := by rw [List.foldl_cons, List.foldl_cons, List.foldl_nil, e1, e2]
      rw [split2, List.foldl_append, e12]
      obtain ⟨ts', e⟩ := five v2 w2
      exact ⟨_, _, e⟩

/-- IacAgain's law -/
theorem feed_again (x : Wr) (s : List UInt8) (t : Tk) (hx : x.ok = true) (ht : (text t).2 = 0) :
    (feed x (s ++ [255, 240, 255, 240, 255, 241] ++ (text t).1)).wire = ⟨0, 0, 0, [], false⟩ ∧ ((text t).1 ≠ [] → (feed x (s ++ [255, 240, 255, 240, 255, 241] ++ (text t).1)).toks.getLast? = some t) := by
  have e : feedTo x (s ++ [255, 240, 255, 240, 255, 241] ++ (text t).1) = (text t).1.foldl RS.take ([255, 240, 255, 240, 255, 241].foldl RS.take (feedTo x s)) := by
    unfold feedTo
    rw [List.foldl_append, List.foldl_append]
  obtain ⟨ts, h6⟩ := six (feedTo x s) (feedTo_ok x s hx)
  rw [h6, read_text t ht _ ⟨rfl, rfl, rfl, rfl, rfl⟩] at e
  rw [feed, flush_wire, flush_toks_eq, e]
  unfold gain
  by_cases hk : t.kind = 1
  · rw [if_pos hk]
    refine ⟨rfl, fun hne => ?_⟩
    have ht2 := ht
    unfold text at hne ht2
    cases hw : writable t with
    | false => rw [hw] at ht2; simp at ht2
    | true =>
      rw [hw] at hne
      simp only [if_true, hk, show ¬ ((1 : Int) = 2) from by decide, show ¬ ((1 : Int) = 3) from by decide, show ¬ ((1 : Int) = 4) from by decide, if_false] at hne
      have hd : t.data ≠ [] := fun e => hne (by rw [e]; rfl)
      obtain ⟨kd, cm, op, dt⟩ := t
      simp only at hk hd
      subst hk
      simp [writable, Tk.eq] at hw
      obtain ⟨rfl, rfl⟩ := hw
      simp [tail, hd, D]
  · rw [if_neg hk]
    refine ⟨rfl, fun _ => ?_⟩
    simp [RS.tell, tail]
end Go.Proofs.YtmcoliblkkploaaDoor
