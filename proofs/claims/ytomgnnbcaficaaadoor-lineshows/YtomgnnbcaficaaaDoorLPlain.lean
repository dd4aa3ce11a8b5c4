/-
  A line that is typed, plainly: byte by byte; what is left, what is sent, what is shown; and laws of it, of no program. No condition but those that each law names.
-/
import Derived.Below
namespace Go.Proofs.YtomgnnbcaficaaaDoor.L

/-- what the keys and the set of ends say of a byte -/
structure Ks where
  quote : UInt8 → Bool
  char : UInt8 → Bool
  word : UInt8 → Bool
  line : UInt8 → Bool
  show' : UInt8 → Bool
  ends : UInt8 → Bool

/-- the line so far; is the next byte taken as it is? -/
structure Ed where
  buf : List UInt8
  q : Bool

/-- a word at the end goes -/
def cutW (l : List UInt8) : List UInt8 := ((l.reverse.dropWhile (· == 32)).dropWhile (· != 32)).reverse
/-- so many bytes are rubbed out -/
def rub : Nat → List UInt8
  | 0 => []
  | n + 1 => 8 :: 32 :: 8 :: rub n
/-- a line that is sent, if one is -/
structure Out where
  ed : Ed
  sent : List (List UInt8)
  echo : List UInt8
def put (buf : List UInt8) (b : UInt8) (e : Bool) : Out :=
  if (buf ++ [b]).length = 1024 ∨ e = true then ⟨⟨[], false⟩, [buf ++ [b]], [b]⟩ else ⟨⟨buf ++ [b], false⟩, [], [b]⟩
def gone (buf left : List UInt8) : Out := ⟨⟨left, false⟩, [], rub (buf.length - left.length)⟩
def step (K : Ks) (e : Ed) (b : UInt8) : Out :=
  if e.q = true then put e.buf b false
  else if K.quote b = true then ⟨⟨e.buf, true⟩, [], []⟩
  else if K.char b = true then gone e.buf e.buf.dropLast
  else if K.word b = true then gone e.buf (cutW e.buf)
  else if K.line b = true then gone e.buf []
  else if K.show' b = true then ⟨⟨e.buf, false⟩, [], 13 :: 10 :: e.buf⟩
  else put e.buf b (K.ends b)
def run (K : Ks) : Ed → List UInt8 → Out
  | e, [] => ⟨e, [], []⟩
  | e, b :: r => ⟨(run K (step K e b).ed r).ed, (step K e b).sent ++ (run K (step K e b).ed r).sent, (step K e b).echo ++ (run K (step K e b).ed r).echo⟩

theorem run_nil (K : Ks) (e : Ed) : run K e [] = ⟨e, [], []⟩ := rfl
theorem run_cons (K : Ks) (e : Ed) (b : UInt8) (r : List UInt8) : run K e (b :: r) = ⟨(run K (step K e b).ed r).ed, (step K e b).sent ++ (run K (step K e b).ed r).sent, (step K e b).echo ++ (run K (step K e b).ed r).echo⟩ := rfl
/-- in two goes -/
theorem run_app (K : Ks) (a b : List UInt8) : ∀ e, run K e (a ++ b) = ⟨(run K (run K e a).ed b).ed, (run K e a).sent ++ (run K (run K e a).ed b).sent, (run K e a).echo ++ (run K (run K e a).ed b).echo⟩ := by
  induction a with
  | nil => intro e; simp [run_nil]
  | cons x a ih =>
    intro e
    rw [List.cons_append, run_cons, ih, run_cons]
    simp

theorem cutW_len (l : List UInt8) : (cutW l).length ≤ l.length := by
  unfold cutW
  rw [List.length_reverse]
  have h1 := (List.dropWhile_sublist (l := l.reverse) (· == 32)).length_le
  have h2 := (List.dropWhile_sublist (l := l.reverse.dropWhile (· == 32)) (· != 32)).length_le
  rw [List.length_reverse] at h1
  omega
theorem rub_len (n : Nat) : (rub n).length = 3 * n := by
  induction n with
  | zero => rfl
  | succ n ih => rw [rub]; simp only [List.length_cons, ih]; omega

/-- a line is never full -/
theorem put_small {buf : List UInt8} (h : buf.length < 1024) (b : UInt8) (e : Bool) : (put buf b e).ed.buf.length < 1024 := by
  unfold put
  split
  · simp
  · rename_i hn
    simp only [List.length_append, List.length_singleton] at *
    omega
theorem step_small (K : Ks) {e : Ed} (h : e.buf.length < 1024) (b : UInt8) : (step K e b).ed.buf.length < 1024 := by
  unfold step
  split
  · exact put_small h _ _
  split
  · exact h
  split
  · show e.buf.dropLast.length < 1024
    rw [List.length_dropLast]; omega
  split
  · exact Nat.lt_of_le_of_lt (cutW_len _) h
  split
  · show ([] : List UInt8).length < 1024
    simp
  split
  · exact h
  · exact put_small h _ _
theorem run_small (K : Ks) (l : List UInt8) : ∀ e : Ed, e.buf.length < 1024 → (run K e l).ed.buf.length < 1024 := by
  induction l with
  | nil => intro e h; exact h
  | cons b l ih => intro e h; rw [run_cons]; exact ih _ (step_small K h b)

/-- a byte without a meaning of its own -/
def plainB (K : Ks) (b : UInt8) : Prop := K.quote b = false ∧ K.char b = false ∧ K.word b = false ∧ K.line b = false ∧ K.show' b = false
theorem step_plain {K : Ks} {e : Ed} (hq : e.q = false) {b : UInt8} (h : plainB K b) : step K e b = put e.buf b (K.ends b) := by
  obtain ⟨h1, h2, h3, h4, h5⟩ := h
  unfold step
  simp [hq, h1, h2, h3, h4, h5]
theorem put_echo (buf : List UInt8) (b : UInt8) (e : Bool) : (put buf b e).echo = [b] := by unfold put; split <;> rfl
theorem put_q (buf : List UInt8) (b : UInt8) (e : Bool) : (put buf b e).ed.q = false := by unfold put; split <;> rfl
theorem put_all (buf : List UInt8) (b : UInt8) (e : Bool) : (put buf b e).sent.flatten ++ (put buf b e).ed.buf = buf ++ [b] := by unfold put; split <;> simp

/-- text without keys that mean something is sent, or is left, as it was typed, and shown so -/
theorem run_plain (K : Ks) (l : List UInt8) : ∀ e : Ed, e.q = false → (∀ b ∈ l, plainB K b) → (run K e l).sent.flatten ++ (run K e l).ed.buf = e.buf ++ l ∧ (run K e l).echo = l ∧ (run K e l).ed.q = false := by
  induction l with
  | nil => intro e h _; exact ⟨by simp [run_nil], rfl, h⟩
  | cons b l ih =>
    intro e hq h
    have hs := step_plain hq (h b (by simp))
    obtain ⟨h1, h2, h3⟩ := ih (step K e b).ed (by rw [hs]; exact put_q _ _ _) (fun x hx => h x (by simp [hx]))
    rw [run_cons]
    refine ⟨?_, ?_, h3⟩
    · show ((step K e b).sent ++ (run K (step K e b).ed l).sent).flatten ++ (run K (step K e b).ed l).ed.buf = _
      rw [List.flatten_append, List.append_assoc, h1, ← List.append_assoc, hs, put_all]
      simp
    · show _ ++ _ = _
      rw [h2, hs, put_echo]
      rfl

/-- no byte but the last one of a line ends it -/
def inner (K : Ks) (l : List UInt8) : Prop := ∀ i, i + 1 < l.length → ∀ x, l[i]? = some x → K.ends x = false
/-- .. and the last one does, or the line is full -/
def whole (K : Ks) (l : List UInt8) : Prop := l ≠ [] ∧ inner K l ∧ (l.length = 1024 ∨ ∃ x, l.getLast? = some x ∧ K.ends x = true)
def open' (K : Ks) (l : List UInt8) : Prop := ∀ x ∈ l, K.ends x = false
theorem inner_snoc {K : Ks} {l : List UInt8} (h : open' K l) (b : UInt8) : inner K (l ++ [b]) := fun i hi x hx => by
  rw [List.getElem?_append_left (by simp at hi; omega)] at hx
  exact h x (List.mem_of_getElem? hx)
theorem run_lines (K : Ks) (l : List UInt8) : ∀ e : Ed, e.q = false → open' K e.buf → (∀ b ∈ l, plainB K b) → (∀ t ∈ (run K e l).sent, whole K t) ∧ open' K (run K e l).ed.buf := by
  induction l with
  | nil => intro e _ h _; exact ⟨fun t ht => by simp [run_nil] at ht, h⟩
  | cons b l ih =>
    intro e hq ho h
    have hs := step_plain hq (h b (by simp))
    have hput : (∀ t ∈ (put e.buf b (K.ends b)).sent, whole K t) ∧ open' K (put e.buf b (K.ends b)).ed.buf := by
      unfold put
      split
      · rename_i hf
        refine ⟨fun t ht => ?_, fun x hx => by simp at hx⟩
        simp only [List.mem_singleton] at ht
        subst ht
        refine ⟨by simp, inner_snoc ho b, ?_⟩
        rcases hf with h1 | h1
        · exact .inl h1
        · exact .inr ⟨b, by simp, h1⟩
      · rename_i hf
        refine ⟨fun t ht => by simp at ht, fun x hx => ?_⟩
        rcases List.mem_append.1 hx with h1 | h1
        · exact ho x h1
        · simp only [List.mem_singleton] at h1
          subst h1
          cases he : K.ends x with
          | false => rfl
          | true => exact absurd (Or.inr he) hf
    obtain ⟨h1, h2⟩ := ih (step K e b).ed (by rw [hs]; exact put_q _ _ _) (by rw [hs]; exact hput.2) (fun x hx => h x (by simp [hx]))
    rw [run_cons]
    refine ⟨fun t ht => ?_, h2⟩
    rcases List.mem_append.1 ht with h3 | h3
    · rw [hs] at h3; exact hput.1 t h3
    · exact h1 t h3

/-- each byte behind the quoting key is put as it is -/
def quoted (c : UInt8) : List UInt8 → List UInt8
  | [] => []
  | b :: r => c :: b :: quoted c r
theorem step_quote {K : Ks} {e : Ed} (hq : e.q = false) {c : UInt8} (h : K.quote c = true) : step K e c = ⟨⟨e.buf, true⟩, [], []⟩ := by
  unfold step
  simp [hq, h]
theorem step_quoted (K : Ks) (buf : List UInt8) (b : UInt8) (h : buf.length + 1 < 1024) : step K ⟨buf, true⟩ b = ⟨⟨buf ++ [b], false⟩, [], [b]⟩ := by
  unfold step put
  rw [if_pos rfl, if_neg (by simp; omega)]
theorem run_quoted (K : Ks) (c : UInt8) (hc : K.quote c = true) (l : List UInt8) : ∀ buf : List UInt8, buf.length + l.length < 1024 → run K ⟨buf, false⟩ (quoted c l) = ⟨⟨buf ++ l, false⟩, [], l⟩ := by
  induction l with
  | nil => intro buf _; simp [quoted, run_nil]
  | cons b l ih =>
    intro buf h
    simp only [List.length_cons] at h
    rw [quoted, run_cons, step_quote rfl hc, run_cons, step_quoted K buf b (by omega), ih (buf ++ [b]) (by simp; omega)]
    simp

/-- what is typed is put, where it fits and ends nothing -/
theorem run_put (K : Ks) (l : List UInt8) : ∀ buf : List UInt8, buf.length + l.length < 1024 → (∀ b ∈ l, plainB K b ∧ K.ends b = false) → run K ⟨buf, false⟩ l = ⟨⟨buf ++ l, false⟩, [], l⟩ := by
  induction l with
  | nil => intro buf _ _; simp [run_nil]
  | cons b l ih =>
    intro buf h hp
    simp only [List.length_cons] at h
    obtain ⟨h1, h2⟩ := hp b (by simp)
    have hs : step K ⟨buf, false⟩ b = ⟨⟨buf ++ [b], false⟩, [], [b]⟩ := by
      rw [step_plain rfl h1]
      unfold put
      rw [h2, if_neg (by simp; omega)]
    rw [run_cons, hs, ih (buf ++ [b]) (by simp; omega) (fun x hx => hp x (by simp [hx]))]
    simp
theorem step_char {K : Ks} {c : UInt8} (h0 : K.quote c = false) (h : K.char c = true) (buf : List UInt8) : step K ⟨buf, false⟩ c = gone buf buf.dropLast := by
  unfold step
  simp [h0, h]
theorem step_line {K : Ks} {c : UInt8} (h0 : K.quote c = false) (h1 : K.char c = false) (h2 : K.word c = false) (h : K.line c = true) (buf : List UInt8) : step K ⟨buf, false⟩ c = gone buf [] := by
  unfold step
  simp [h0, h1, h2, h]
/-- byte by byte rubbed out -/
theorem run_rub {K : Ks} {c : UInt8} (h0 : K.quote c = false) (h : K.char c = true) : ∀ (n : Nat) (buf l : List UInt8), l.length = n → (run K ⟨buf ++ l, false⟩ (List.replicate n c)).ed = ⟨buf, false⟩ ∧ (run K ⟨buf ++ l, false⟩ (List.replicate n c)).sent = []
  | 0, buf, l, hl => by
    have : l = [] := List.length_eq_zero_iff.1 hl
    subst this
    simp [run_nil]
  | n + 1, buf, l, hl => by
    have hne : l ≠ [] := by intro e; rw [e] at hl; simp at hl
    have hd : (buf ++ l).dropLast = buf ++ l.dropLast := List.dropLast_append_of_ne_nil hne
    obtain ⟨h1, h2⟩ := run_rub h0 h n buf l.dropLast (by rw [List.length_dropLast]; omega)
    rw [List.replicate_succ, run_cons, step_char h0 h]
    show (run K (gone (buf ++ l) (buf ++ l).dropLast).ed _).ed = _ ∧ (gone (buf ++ l) (buf ++ l).dropLast).sent ++ (run K (gone (buf ++ l) (buf ++ l).dropLast).ed _).sent = _
    unfold gone
    rw [hd]
    exact ⟨h1, by simpa using h2⟩

/-- paper on which one types and rubs out: the row that is seen -/
def playF : Nat → List UInt8 → List UInt8 → Option (List UInt8)
  | 0, row, _ => some row
  | _ + 1, row, [] => some row
  | n + 1, row, x :: s =>
    if x = 13 ∧ s.head? = some 10 then playF n [] s.tail
    else if x = 8 ∧ s.take 2 = [32, 8] then (if row = [] then none else playF n row.dropLast (s.drop 2))
    else playF n (row ++ [x]) s
def Plays (row s r : List UInt8) : Prop := ∀ n, s.length ≤ n → playF n row s = some r
theorem plays_nil (row : List UInt8) : Plays row [] row := fun n _ => by cases n <;> rfl
theorem plays_put {row s r : List UInt8} {x : UInt8} (h8 : x ≠ 8) (h13 : x ≠ 13) (h : Plays (row ++ [x]) s r) : Plays row (x :: s) r := fun n hn => by
  cases n with
  | zero => simp at hn
  | succ n =>
    rw [playF, if_neg (fun e => h13 e.1), if_neg (fun e => h8 e.1)]
    exact h n (by simp at hn; omega)
theorem plays_rub {row s r : List UInt8} (hr : row ≠ []) (h : Plays row.dropLast s r) : Plays row (8 :: 32 :: 8 :: s) r := fun n hn => by
  cases n with
  | zero => simp at hn
  | succ n =>
    rw [playF, if_neg (fun e => by have := e.1; revert this; decide), if_pos ⟨rfl, rfl⟩, if_neg hr]
    exact h n (by simp only [List.length_cons] at hn; omega)
theorem plays_new {row s r : List UInt8} (h : Plays [] s r) : Plays row (13 :: 10 :: s) r := fun n hn => by
  cases n with
  | zero => simp at hn
  | succ n =>
    rw [playF, if_pos ⟨rfl, rfl⟩]
    exact h n (by simp only [List.length_cons] at hn; omega)
/-- bytes that are signs alone -/
def cleanB (x : UInt8) : Prop := x ≠ 8 ∧ x ≠ 10 ∧ x ≠ 13
def clean (l : List UInt8) : Prop := ∀ x ∈ l, cleanB x
theorem plays_text {s r : List UInt8} (l : List UInt8) : ∀ row, clean l → Plays (row ++ l) s r → Plays row (l ++ s) r := by
  induction l with
  | nil => intro row _ h; rw [List.append_nil] at h; exact h
  | cons x l ih =>
    intro row hc h
    have hx := hc x (by simp)
    exact plays_put hx.1 hx.2.2 (ih (row ++ [x]) (fun y hy => hc y (by simp [hy])) (by rw [List.append_assoc]; exact h))
theorem plays_gone {s r : List UInt8} : ∀ (n : Nat) (row : List UInt8), n ≤ row.length → Plays (row.take (row.length - n)) s r → Plays row (rub n ++ s) r
  | 0, row, _, h => by
    rw [Nat.sub_zero, List.take_length] at h
    exact h
  | n + 1, row, hn, h => by
    have hne : row ≠ [] := by intro e; rw [e] at hn; simp at hn
    refine plays_rub hne (plays_gone n row.dropLast (by rw [List.length_dropLast]; omega) ?_)
    rw [List.length_dropLast, List.dropLast_eq_take, List.take_take, Nat.min_eq_left (by omega), show row.length - 1 - n = row.length - (n + 1) by omega]
    exact h
/-- what is left is the front of what there was -/
theorem cutW_front (l : List UInt8) : l.take (cutW l).length = cutW l := by
  have h : cutW l <+: l := by
    unfold cutW
    have h1 := List.dropWhile_suffix (l := l.reverse) (· == 32)
    have h2 := List.dropWhile_suffix (l := l.reverse.dropWhile (· == 32)) (· != 32)
    have h3 := h2.trans h1
    rw [← List.reverse_prefix, List.reverse_reverse] at h3
    exact h3
  exact (List.prefix_iff_eq_take.1 h).symm
theorem plays_left {s r buf left : List UInt8} (hf : buf.take left.length = left) (hl : left.length ≤ buf.length) (h : Plays left s r) : Plays buf (rub (buf.length - left.length) ++ s) r := by
  refine plays_gone _ buf (by omega) ?_
  rw [show buf.length - (buf.length - left.length) = left.length by omega, hf]
  exact h
theorem clean_take {l : List UInt8} (h : clean l) (n : Nat) : clean (l.take n) := fun x hx => h x (List.mem_of_mem_take hx)

theorem put_shows {buf : List UInt8} {b : UInt8} {e : Bool} (hb : cleanB b) (hc : clean buf) (hs : (put buf b e).sent = []) : clean (put buf b e).ed.buf ∧ ∀ s r, Plays (put buf b e).ed.buf s r → Plays buf ((put buf b e).echo ++ s) r := by
  unfold put at *
  split at hs
  · cases hs
  · rename_i hn
    rw [if_neg hn]
    refine ⟨fun x hx => ?_, fun s r h => plays_put hb.1 hb.2.2 h⟩
    rcases List.mem_append.1 hx with h1 | h1
    · exact hc x h1
    · simp only [List.mem_singleton] at h1
      subst h1
      exact hb
theorem step_shows (K : Ks) {e : Ed} {b : UInt8} (hb : cleanB b) (hc : clean e.buf) (hs : (step K e b).sent = []) : clean (step K e b).ed.buf ∧ ∀ s r, Plays (step K e b).ed.buf s r → Plays e.buf ((step K e b).echo ++ s) r := by
  unfold step at *
  split at hs
  · rename_i h; rw [if_pos h]; exact put_shows hb hc hs
  rename_i h0; rw [if_neg h0]
  split at hs
  · rename_i h; rw [if_pos h]; exact ⟨hc, fun s r h => h⟩
  rename_i h1; rw [if_neg h1]
  split at hs
  · rename_i h; rw [if_pos h]
    have hf : e.buf.take e.buf.dropLast.length = e.buf.dropLast := by rw [List.dropLast_eq_take, List.length_take, Nat.min_eq_left (by omega)]
    refine ⟨?_, fun s r h => plays_left hf (by rw [List.length_dropLast]; omega) h⟩
    show clean e.buf.dropLast
    rw [← hf]; exact clean_take hc _
  rename_i h2; rw [if_neg h2]
  split at hs
  · rename_i h; rw [if_pos h]
    refine ⟨?_, fun s r h => plays_left (cutW_front e.buf) (cutW_len _) h⟩
    show clean (cutW e.buf)
    rw [← cutW_front]; exact clean_take hc _
  rename_i h3; rw [if_neg h3]
  split at hs
  · rename_i h; rw [if_pos h]
    exact ⟨(show clean ([] : List UInt8) from fun x hx => (by cases hx)), fun s r h => plays_left (left := []) (by simp) (by simp) h⟩
  rename_i h4; rw [if_neg h4]
  split at hs
  · rename_i h; rw [if_pos h]
    refine ⟨hc, fun s r h => ?_⟩
    show Plays e.buf (13 :: 10 :: (e.buf ++ s)) r
    exact plays_new (plays_text e.buf [] hc (by rw [List.nil_append]; exact h))
  rename_i h5; rw [if_neg h5]
  exact put_shows hb hc hs
/-- whoever looks at the echo sees the line -/
theorem run_shows (K : Ks) (l : List UInt8) : ∀ e : Ed, clean l → clean e.buf → (run K e l).sent = [] → ∀ s r, Plays (run K e l).ed.buf s r → Plays e.buf ((run K e l).echo ++ s) r := by
  induction l with
  | nil => intro e _ _ _ s r h; exact h
  | cons b l ih =>
    intro e hl hc hs s r h
    rw [run_cons] at hs h ⊢
    dsimp only at hs h ⊢
    rw [List.append_eq_nil_iff] at hs
    obtain ⟨h1, h2⟩ := step_shows K (hl b (by simp)) hc hs.1
    rw [List.append_assoc]
    exact h2 _ _ (ih _ (fun x hx => hl x (by simp [hx])) h1 hs.2 s r h)
theorem line_shows (K : Ks) (l : List UInt8) (hl : clean l) (hs : (run K ⟨[], false⟩ l).sent = []) : Plays [] (run K ⟨[], false⟩ l).echo (run K ⟨[], false⟩ l).ed.buf := by
  have h := run_shows K l ⟨[], false⟩ hl (fun x hx => by cases hx) hs [] _ (plays_nil _)
  rwa [List.append_nil] at h
end Go.Proofs.YtomgnnbcaficaaaDoor.L
