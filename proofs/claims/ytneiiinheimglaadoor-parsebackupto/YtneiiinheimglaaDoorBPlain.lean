/-
  Plain functions of the document's chapter on commands among runes, and their laws; no program, no condition.
-/
import Derived.Test.YtneiiinheimglaaDoorZPlain
import Derived.Test.YtneiiinheimglaaDoorULaw2
namespace Go.Proofs.YtneiiinheimglaaDoor.B
open Go.Lib Go.Proofs.YtneiiinheimglaaDoor

/-- a parser -/
structure Ps where
  st : Nat
  mark : Int
  inter : List UInt8
  args : List UInt8
  text : List UInt8
/-- an act -/
structure Ac where
  kind : Int
  code : Int
  mark : Int
  inter : List UInt8
  args : List Int
  text : List UInt8
def p0 : Ps := ⟨0, 0, [], [], []⟩
def at' (st : Nat) : Ps := ⟨st, 0, [], [], []⟩
def gone : Ac := ⟨6, 0, 0, [], [], []⟩

/-- the class of a rune, by its place among the classes -/
def cls (c : Int) : Nat :=
  if c = 24 ∨ c = 26 then 0 else if c = 27 then 1 else if c = 7 then 2 else if 0 ≤ c ∧ c ≤ 31 then 3
  else if 32 ≤ c ∧ c ≤ 47 then 4 else if c = 58 then 5 else if 48 ≤ c ∧ c ≤ 59 then 6 else if 60 ≤ c ∧ c ≤ 63 then 7
  else if c = 91 then 8 else if c = 93 then 9 else if c = 92 then 10 else if c = 80 ∨ c = 88 ∨ c = 94 ∨ c = 95 then 11
  else if 64 ≤ c ∧ c ≤ 126 then 12 else if 160 ≤ c ∧ c ≤ 1114111 then 14 else 13
/-- what is done in a state, by the class: the letters of the document's table, as bytes -/
def row (st : Nat) : List Nat :=
  if st = 0 then [88, 69, 67, 67, 80, 80, 80, 80, 80, 80, 80, 80, 80, 46, 80]
  else if st = 1 then [88, 69, 67, 67, 73, 70, 70, 70, 83, 79, 70, 84, 70, 46, 68]
  else if st = 2 then [88, 69, 67, 67, 74, 70, 70, 70, 70, 70, 70, 70, 70, 46, 68]
  else if st = 3 then [88, 69, 67, 67, 73, 71, 65, 77, 70, 70, 70, 70, 70, 46, 68]
  else if st = 4 then [88, 69, 67, 67, 73, 71, 65, 71, 70, 70, 70, 70, 70, 46, 68]
  else if st = 5 then [88, 69, 67, 67, 74, 71, 71, 71, 70, 70, 70, 70, 70, 46, 68]
  else if st = 6 then [88, 69, 67, 67, 46, 46, 46, 46, 68, 68, 68, 68, 68, 46, 68]
  else if st = 7 then [68, 90, 89, 46, 87, 87, 87, 87, 87, 87, 87, 87, 87, 46, 87]
  else if st = 9 then [68, 90, 46, 46, 46, 46, 46, 46, 46, 46, 46, 46, 46, 46, 46]
  else [82, 82, 82, 82, 82, 82, 82, 82, 82, 82, 89, 82, 82, 82, 82]
/-- what is done at a rune; 46: nothing -/
def what (st : Nat) (k : Nat) : Nat := if st = 0 ∧ k = 0 then 46 else (row st).getD k 46
/-- a sign below 128 -/
def sg (c : Int) : UInt8 := c.toNat.toUInt8
def final (p : Ps) (c : Int) : Ac :=
  if p.inter.length = 3 then gone
  else if p.st < 3 then ⟨3, c, 0, p.inter, [], []⟩
  else ⟨4, c, p.mark, p.inter, (Z.readT p.args).1, []⟩
/-- what a letter of the table does -/
def does (p : Ps) (c : Int) (k : Nat) : Ps × List Ac :=
  if k = 88 ∨ k = 68 then (p0, [gone])
  else if k = 69 then (at' 1, if p.st = 0 then [] else [gone])
  else if k = 67 then (p, [⟨2, c, 0, [], [], []⟩])
  else if k = 80 then (p, [⟨1, c, 0, [], [], []⟩])
  else if k = 73 then (⟨if p.st = 1 then 2 else 5, p.mark, [sg c], p.args, p.text⟩, [])
  else if k = 74 then (if p.inter.length < 3 then ⟨p.st, p.mark, p.inter ++ [sg c], p.args, p.text⟩ else p, [])
  else if k = 65 then (⟨4, p.mark, p.inter, if p.args.length < 100 then p.args ++ [sg c] else p.args, p.text⟩, [])
  else if k = 77 then (⟨4, c, [], [], []⟩, [])
  else if k = 71 then (at' 6, [])
  else if k = 83 then (at' 3, [])
  else if k = 79 then (at' 7, [])
  else if k = 84 then (at' 9, [])
  else if k = 90 then (⟨p.st + 1, p.mark, p.inter, p.args, p.text⟩, [])
  else if k = 87 then (if p.text.length + (encodeRune c).length ≤ 256 then ⟨p.st, p.mark, p.inter, p.args, p.text ++ encodeRune c⟩ else p, [])
  else if k = 89 then (p0, [if 8 < p.st then gone else ⟨5, 0, 0, [], [], p.text⟩])
  else if k = 70 then (p0, [final p c])
  else (p, [])
/-- one rune -/
def step (p : Ps) (c : Int) : Ps × List Ac :=
  if c < 0 ∨ 1114111 < c then (p, [])
  else if what p.st (cls c) = 82 then ((does (at' 1) c (what 1 (cls c))).1, gone :: (does (at' 1) c (what 1 (cls c))).2)
  else does p c (what p.st (cls c))
/-- all runes -/
def run : Ps → List Int → Ps × List Ac
  | p, [] => (p, [])
  | p, c :: r => ((run (step p c).1 r).1, (step p c).2 ++ (run (step p c).1 r).2)

theorem run_app (a b : List Int) : ∀ p : Ps, run p (a ++ b) = ((run (run p a).1 b).1, (run p a).2 ++ (run (run p a).1 b).2) := by
  induction a with
  | nil => intro p; simp [run]
  | cons c a ih =>
    intro p
    rw [List.cons_append, run, run, ih]
    simp
theorem cls_cases (c : Int) : (c = 24 ∨ c = 26) ∧ cls c = 0 ∨ (c = 27) ∧ cls c = 1 ∨ (c = 7) ∧ cls c = 2 ∨ (0 ≤ c ∧ c ≤ 31) ∧ cls c = 3 ∨ (32 ≤ c ∧ c ≤ 47) ∧ cls c = 4 ∨ (c = 58) ∧ cls c = 5 ∨ (48 ≤ c ∧ c ≤ 59) ∧ cls c = 6 ∨ (60 ≤ c ∧ c ≤ 63) ∧ cls c = 7 ∨ (c = 91) ∧ cls c = 8 ∨ (c = 93) ∧ cls c = 9 ∨ (c = 92) ∧ cls c = 10 ∨ (c = 80 ∨ c = 88 ∨ c = 94 ∨ c = 95) ∧ cls c = 11 ∨ (64 ≤ c ∧ c ≤ 126) ∧ cls c = 12 ∨ (160 ≤ c ∧ c ≤ 1114111) ∧ cls c = 14 ∨ (c < 0 ∨ 127 ≤ c ∧ c ≤ 159 ∨ 1114111 < c) ∧ cls c = 13 := by
  by_cases h0 : c = 24 ∨ c = 26
  · exact .inl ⟨h0, by unfold cls; rw [if_pos h0]⟩
  by_cases h1 : c = 27
  · exact .inr (.inl ⟨h1, by unfold cls; rw [if_neg h0, if_pos h1]⟩)
  by_cases h2 : c = 7
  · exact .inr (.inr (.inl ⟨h2, by unfold cls; rw [if_neg h0, if_neg h1, if_pos h2]⟩))
  by_cases h3 : 0 ≤ c ∧ c ≤ 31
  · exact .inr (.inr (.inr (.inl ⟨h3, by unfold cls; rw [if_neg h0, if_neg h1, if_neg h2, if_pos h3]⟩)))
  by_cases h4 : 32 ≤ c ∧ c ≤ 47
  · exact .inr (.inr (.inr (.inr (.inl ⟨h4, by unfold cls; rw [if_neg h0, if_neg h1, if_neg h2, if_neg h3, if_pos h4]⟩))))
  by_cases h5 : c = 58
  · exact .inr (.inr (.inr (.inr (.inr (.inl ⟨h5, by unfold cls; rw [if_neg h0, if_neg h1, if_neg h2, if_neg h3, if_neg h4, if_pos h5]⟩)))))
  by_cases h6 : 48 ≤ c ∧ c ≤ 59
  · exact .inr (.inr (.inr (.inr (.inr (.inr (.inl ⟨h6, by unfold cls; rw [if_neg h0, if_neg h1, if_neg h2, if_neg h3, if_neg h4, if_neg h5, if_pos h6]⟩))))))
  by_cases h7 : 60 ≤ c ∧ c ≤ 63
  · exact .inr (.inr (.inr (.inr (.inr (.inr (.inr (.inl ⟨h7, by unfold cls; rw [if_neg h0, if_neg h1, if_neg h2, if_neg h3, if_neg h4, if_neg h5, if_neg h6, if_pos h7]⟩)))))))
  by_cases h8 : c = 91
  · exact .inr (.inr (.inr (.inr (.inr (.inr (.inr (.inr (.inl ⟨h8, by unfold cls; rw [if_neg h0, if_neg h1, if_neg h2, if_neg h3, if_neg h4, if_neg h5, if_neg h6, if_neg h7, if_pos h8]⟩))))))))
  by_cases h9 : c = 93
  · exact .inr (.inr (.inr (.inr (.inr (.inr (.inr (.inr (.inr (.inl ⟨h9, by unfold cls; rw [if_neg h0, if_neg h1, if_neg h2, if_neg h3, if_neg h4, if_neg h5, if_neg h6, if_neg h7, if_neg h8, if_pos h9]⟩)))))))))
  by_cases h10 : c = 92
  · exact .inr (.inr (.inr (.inr (.inr (.inr (.inr (.inr (.inr (.inr (.inl ⟨h10, by unfold cls; rw [if_neg h0, if_neg h1, if_neg h2, if_neg h3, if_neg h4, if_neg h5, if_neg h6, if_neg h7, if_neg h8, if_neg h9, if_pos h10]⟩))))))))))
  by_cases h11 : c = 80 ∨ c = 88 ∨ c = 94 ∨ c = 95
  · exact .inr (.inr (.inr (.inr (.inr (.inr (.inr (.inr (.inr (.inr (.inr (.inl ⟨h11, by unfold cls; rw [if_neg h0, if_neg h1, if_neg h2, if_neg h3, if_neg h4, if_neg h5, if_neg h6, if_neg h7, if_neg h8, if_neg h9, if_neg h10, if_pos h11]⟩)))))))))))
  by_cases h12 : 64 ≤ c ∧ c ≤ 126
  · exact .inr (.inr (.inr (.inr (.inr (.inr (.inr (.inr (.inr (.inr (.inr (.inr (.inl ⟨h12, by unfold cls; rw [if_neg h0, if_neg h1, if_neg h2, if_neg h3, if_neg h4, if_neg h5, if_neg h6, if_neg h7, if_neg h8, if_neg h9, if_neg h10, if_neg h11, if_pos h12]⟩))))))))))))
  by_cases h13 : 160 ≤ c ∧ c ≤ 1114111
  · exact .inr (.inr (.inr (.inr (.inr (.inr (.inr (.inr (.inr (.inr (.inr (.inr (.inr (.inl ⟨h13, by unfold cls; rw [if_neg h0, if_neg h1, if_neg h2, if_neg h3, if_neg h4, if_neg h5, if_neg h6, if_neg h7, if_neg h8, if_neg h9, if_neg h10, if_neg h11, if_neg h12, if_pos h13]⟩)))))))))))))
  exact .inr (.inr (.inr (.inr (.inr (.inr (.inr (.inr (.inr (.inr (.inr (.inr (.inr (.inr (⟨by omega, by unfold cls; rw [if_neg h0, if_neg h1, if_neg h2, if_neg h3, if_neg h4, if_neg h5, if_neg h6, if_neg h7, if_neg h8, if_neg h9, if_neg h10, if_neg h11, if_neg h12, if_neg h13]⟩))))))))))))))
theorem cls_lt (c : Int) : cls c < 15 := by
  have := cls_cases c
  omega

/-- the bytes that may stand between -/
def mid (b : UInt8) : Prop := 32 ≤ b.toNat ∧ b.toNat ≤ 47
structure right (p : Ps) : Prop where
  st : p.st ≤ 10
  mark : p.mark = 0 ∨ 60 ≤ p.mark ∧ p.mark ≤ 63 ∧ (p.st = 4 ∨ p.st = 5)
  ilen : p.inter.length ≤ 3
  inter : p.inter = [] ↔ ¬ (p.st = 2 ∨ p.st = 5)
  alen : p.args.length ≤ 100
  args : p.args = [] ∨ p.st = 4 ∨ p.st = 5
  tlen : p.text.length ≤ 256
  text : p.text = [] ∨ p.st = 7 ∨ p.st = 8
  mids : ∀ b ∈ p.inter, mid b
  signs : ∀ b ∈ p.args, Z.okB b = true
theorem right_at (st : Nat) (h : st ≤ 10) (h2 : ¬ (st = 2 ∨ st = 5)) : right (at' st) :=
  ⟨h, .inl rfl, Nat.zero_le _, ⟨fun _ => h2, fun _ => rfl⟩, Nat.zero_le _, .inl rfl, Nat.zero_le _, .inl rfl, fun _ hb => (by cases hb), fun _ hb => (by cases hb)⟩
theorem right_p0 : right p0 := right_at 0 (by decide) (by decide)
end Go.Proofs.YtneiiinheimglaaDoor.B
