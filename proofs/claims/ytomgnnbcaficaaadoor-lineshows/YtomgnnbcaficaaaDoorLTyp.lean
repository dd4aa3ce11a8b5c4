/-
  What the keys say of a byte; where a word at the end begins, as the loops find it; the editor with its lines; plainly. No condition but those that each law names.
-/
import Derived.Test.YtomgnnbcaficaaaDoorLPlain
import Derived.Test.YtomgnnbcaficaaaDoorKPlain
import Derived.Test.YtomgnnbcaficaaaDoorHPlain
import Derived.Lib.TrimByte
namespace Go.Proofs.YtomgnnbcaficaaaDoor.L
open Go.Lib

/-- is it the key of a function? -/
def isK (k : List UInt8) (f : Nat) (b : UInt8) : Bool := decide (K.lv k f ≠ 0 ∧ K.ch k f = b)
def isEnd (k : List UInt8) (M : List Nat) (b : UInt8) : Bool := decide (b = 13 ∨ b = 10) || (isK k 17 b || (isK k 18 b || H.mem M b.toNat))
def KK (k : List UInt8) (M : List Nat) : Ks := ⟨isK k 14, isK k 10, isK k 12, isK k 11, isK k 13, isEnd k M⟩

/-- blanks at the end, up to a place -/
def tz (l : List UInt8) (n : Nat) : Nat := ((l.take n).reverse.dropWhile (· == 32)).length
/-- what is behind the last blank, up to a place -/
def lw (l : List UInt8) (n : Nat) : Nat := ((l.take n).reverse.dropWhile (· != 32)).length
theorem take_rev (l : List UInt8) (n : Nat) (h : n < l.length) : (l.take (n + 1)).reverse = l[n] :: (l.take n).reverse := by
  rw [List.take_succ_eq_append_getElem h, List.reverse_append]
  rfl
theorem tz_zero (l : List UInt8) : tz l 0 = 0 := by simp [tz]
theorem tz_succ (l : List UInt8) (n : Nat) (h : n < l.length) : tz l (n + 1) = if l[n] = 32 then tz l n else n + 1 := by
  unfold tz
  rw [take_rev l n h]
  by_cases h0 : l[n] = 32
  · rw [if_pos h0, List.dropWhile_cons_of_pos (by simp [h0])]
  · rw [if_neg h0, List.dropWhile_cons_of_neg (by simp [h0])]
    simp only [List.length_cons, List.length_reverse, List.length_take]
    omega
theorem lw_zero (l : List UInt8) : lw l 0 = 0 := by simp [lw]
theorem lw_succ (l : List UInt8) (n : Nat) (h : n < l.length) : lw l (n + 1) = if l[n] = 32 then n + 1 else lw l n := by
  unfold lw
  rw [take_rev l n h]
  by_cases h0 : l[n] = 32
  · rw [if_pos h0, List.dropWhile_cons_of_neg (by simp [h0])]
    simp only [List.length_cons, List.length_reverse, List.length_take]
    omega
  · rw [if_neg h0, List.dropWhile_cons_of_pos (by simp [h0])]
theorem rev_front (p : UInt8 → Bool) (l : List UInt8) : (l.reverse.dropWhile p).reverse = l.take (l.reverse.dropWhile p).length := by
  have h : (l.reverse.dropWhile p).reverse <+: l := by
    have h2 := List.dropWhile_suffix (l := l.reverse) p
    rw [← List.reverse_prefix, List.reverse_reverse] at h2
    exact h2
  have e := List.prefix_iff_eq_take.1 h
  rw [List.length_reverse] at e
  exact e
theorem tz_le (l : List UInt8) (n : Nat) : tz l n ≤ n := by
  unfold tz
  have h1 := (List.dropWhile_sublist (l := (l.take n).reverse) (· == 32)).length_le
  rw [List.length_reverse, List.length_take] at h1
  omega
theorem tz_len (l : List UInt8) (n : Nat) : tz l n ≤ l.length := by
  unfold tz
  have h1 := (List.dropWhile_sublist (l := (l.take n).reverse) (· == 32)).length_le
  rw [List.length_reverse, List.length_take] at h1
  omega
theorem lw_le (l : List UInt8) (n : Nat) : lw l n ≤ n := by
  unfold lw
  have h1 := (List.dropWhile_sublist (l := (l.take n).reverse) (· != 32)).length_le
  rw [List.length_reverse, List.length_take] at h1
  omega
theorem trim_tz (l : List UInt8) : trimRightB l 32 = l.take (tz l l.length) := by
  unfold trimRightB tz
  rw [List.take_length]
  exact rev_front _ _
/-- where the last word begins -/
def ws (l : List UInt8) : Nat := lw l (tz l l.length)
theorem ws_le (l : List UInt8) : ws l ≤ l.length := Nat.le_trans (lw_le _ _) (tz_le _ _)
theorem cutW_ws (l : List UInt8) : cutW l = l.take (ws l) := by
  have e : cutW l = ((l.take (tz l l.length)).reverse.dropWhile (· != 32)).reverse := by
    rw [← trim_tz]
    unfold cutW trimRightB
    rw [List.reverse_reverse]
  rw [e, rev_front, List.take_take]
  unfold ws lw
  congr 1
  have h1 := (List.dropWhile_sublist (l := (l.take (tz l l.length)).reverse) (· != 32)).length_le
  rw [List.length_reverse, List.length_take] at h1
  omega
theorem cutW_length (l : List UInt8) : (cutW l).length = ws l := by
  rw [cutW_ws, List.length_take]
  have := ws_le l
  omega

/-- an editor at work -/
structure S where
  buf : List UInt8
  q : Bool
  ls : List (List UInt8)
  echo : List UInt8
def putS (s : S) (b : UInt8) : S := if (s.buf ++ [b]).length = 1024 then ⟨[], s.q, s.ls ++ [s.buf ++ [b]], s.echo ++ [b]⟩ else ⟨s.buf ++ [b], s.q, s.ls, s.echo ++ [b]⟩
def sendS (s : S) : S := ⟨[], s.q, s.ls ++ [s.buf], s.echo⟩
def cutS (s : S) (n : Nat) : S := ⟨s.buf.take n, s.q, s.ls, s.echo ++ rub (s.buf.length - n)⟩
def stepS (K : Ks) (s : S) (b : UInt8) : S := ⟨(step K ⟨s.buf, s.q⟩ b).ed.buf, (step K ⟨s.buf, s.q⟩ b).ed.q, s.ls ++ (step K ⟨s.buf, s.q⟩ b).sent, s.echo ++ (step K ⟨s.buf, s.q⟩ b).echo⟩
def runS (K : Ks) (s : S) (l : List UInt8) : S := ⟨(run K ⟨s.buf, s.q⟩ l).ed.buf, (run K ⟨s.buf, s.q⟩ l).ed.q, s.ls ++ (run K ⟨s.buf, s.q⟩ l).sent, s.echo ++ (run K ⟨s.buf, s.q⟩ l).echo⟩
theorem runS_nil (K : Ks) (s : S) : runS K s [] = s := by simp [runS, run_nil]
theorem runS_cons (K : Ks) (s : S) (b : UInt8) (l : List UInt8) : runS K s (b :: l) = runS K (stepS K s b) l := by simp [runS, stepS, run_cons]
theorem runS_snoc (K : Ks) (s : S) (l : List UInt8) (b : UInt8) : runS K s (l ++ [b]) = stepS K (runS K s l) b := by
  induction l generalizing s with
  | nil => rw [List.nil_append, runS_cons, runS_nil, runS_nil]
  | cons a l ih => rw [List.cons_append, runS_cons, ih, runS_cons]

/-- what each case does -/
theorem stepS_q (K : Ks) (s : S) (b : UInt8) (h : s.q = true) : stepS K s b = putS ⟨s.buf, false, s.ls, s.echo⟩ b := by
  unfold stepS step put putS
  rw [if_pos h]
  by_cases hl : (s.buf ++ [b]).length = 1024
  · rw [if_pos (.inl hl), if_pos hl]
  · rw [if_neg (fun e => e.elim hl (fun e => by cases e)), if_neg hl, List.append_nil]
theorem stepS_quote (K : Ks) (s : S) (b : UInt8) (h : s.q = false) (h0 : K.quote b = true) : stepS K s b = ⟨s.buf, true, s.ls, s.echo⟩ := by
  unfold stepS step
  simp [h, h0]
theorem stepS_char (K : Ks) (s : S) (b : UInt8) (h : s.q = false) (h0 : K.quote b = false) (h1 : K.char b = true) : stepS K s b = cutS s (s.buf.length - 1) := by
  unfold stepS step gone cutS
  simp [h, h0, h1, List.dropLast_eq_take]
theorem stepS_word (K : Ks) (s : S) (b : UInt8) (h : s.q = false) (h0 : K.quote b = false) (h1 : K.char b = false) (h2 : K.word b = true) : stepS K s b = cutS s (ws s.buf) := by
  unfold stepS step gone cutS
  simp [h, h0, h1, h2, cutW_ws]
  have := ws_le s.buf
  rw [Nat.min_eq_left this]
theorem stepS_line (K : Ks) (s : S) (b : UInt8) (h : s.q = false) (h0 : K.quote b = false) (h1 : K.char b = false) (h2 : K.word b = false) (h3 : K.line b = true) : stepS K s b = cutS s 0 := by
  unfold stepS step gone cutS
  simp [h, h0, h1, h2, h3]
theorem stepS_show (K : Ks) (s : S) (b : UInt8) (h : s.q = false) (h0 : K.quote b = false) (h1 : K.char b = false) (h2 : K.word b = false) (h3 : K.line b = false) (h4 : K.show' b = true) : stepS K s b = ⟨s.buf, false, s.ls, s.echo ++ [13, 10] ++ s.buf⟩ := by
  unfold stepS step
  simp [h, h0, h1, h2, h3, h4]
theorem stepS_put (K : Ks) (s : S) (b : UInt8) (h : s.q = false) (hp : plainB K b) (h6 : K.ends b = false) : stepS K s b = putS s b := by
  have hs := step_plain (K := K) (e := ⟨s.buf, s.q⟩) h hp
  unfold stepS
  rw [hs, h6]
  unfold put putS
  by_cases hl : (s.buf ++ [b]).length = 1024
  · rw [if_pos (.inl hl), if_pos hl, h]
  · rw [if_neg (fun e => e.elim hl (fun e => by cases e)), if_neg hl, h, List.append_nil]
/-- a byte that ends a line: it is put, and the line is sent, unless it is -/
theorem stepS_end (K : Ks) (s : S) (b : UInt8) (h : s.q = false) (hp : plainB K b) (h6 : K.ends b = true) : stepS K s b = if (putS s b).buf = [] then putS s b else sendS (putS s b) := by
  have hs := step_plain (K := K) (e := ⟨s.buf, s.q⟩) h hp
  unfold stepS
  rw [hs, h6]
  unfold put putS sendS
  rw [if_pos (.inr rfl)]
  by_cases hl : (s.buf ++ [b]).length = 1024
  · simp only [if_pos hl, if_pos, h]
  · simp only [if_neg hl, h]
    rw [if_neg (by simp)]

/-- how much there may be -/
def room (s : S) (n : Nat) : Prop := s.buf.length < 1024 ∧ s.ls.length ≤ n ∧ s.echo.length ≤ 3072 * n
theorem step_sent (K : Ks) (e : Ed) (b : UInt8) : (step K e b).sent.length ≤ 1 := by
  unfold step put gone
  repeat' split
  all_goals simp
theorem step_echo (K : Ks) (e : Ed) (b : UInt8) (h : e.buf.length < 1024) : (step K e b).echo.length ≤ 3072 := by
  unfold step put gone
  repeat' split
  all_goals (try rw [rub_len])
  all_goals (try simp only [List.length_cons, List.length_nil])
  all_goals omega
theorem stepS_room (K : Ks) (s : S) (b : UInt8) (n : Nat) (h : room s n) : room (stepS K s b) (n + 1) := by
  obtain ⟨h1, h2, h3⟩ := h
  have a1 := step_sent K ⟨s.buf, s.q⟩ b
  have a2 := step_echo K ⟨s.buf, s.q⟩ b h1
  refine ⟨step_small K (e := ⟨s.buf, s.q⟩) h1 b, ?_, ?_⟩
  · show (s.ls ++ _).length ≤ n + 1
    rw [List.length_append]; omega
  · show (s.echo ++ _).length ≤ 3072 * (n + 1)
    rw [List.length_append]; omega
end Go.Proofs.YtomgnnbcaficaaaDoor.L
