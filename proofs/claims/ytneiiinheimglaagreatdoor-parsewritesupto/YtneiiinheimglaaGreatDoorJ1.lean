/-
  Plain functions of the document's chapter on commands among runes, and their laws; no program, no condition.
  Laws of the parser as a plain function: what is left is right, and so is what is told; 24 ends all; no program, no condition.
  Laws of the parser as a plain function: of what make the acts are that it tells; how many of them are controls; runes without controls; no program, no condition.
  Acts that are written and read back, as plain functions: what is written makes just that act, and nothing else that is built so does; no program, no condition.
  What is built of an act's fields and makes just that act is what may be written; acts that are written, one behind the other, are read as they were; no program, no condition.
-/
import Derived.Test.YtneiiinheimglaaGreatDoorZPlain
import Derived.Test.YtneiiinheimglaaGreatDoorJ18
namespace Go.Proofs.YtneiiinheimglaaGreatDoor.B
open Go.Lib Go.Proofs.YtneiiinheimglaaGreatDoor

/-- a parser -/
structure Ps where
  st : Nat
  mark : Int
  inter : List UInt8
  args : List UInt8
  text : List UInt8
/-- an act -/
structure Ac where
  kind : Int
  code : Int
  mark : Int
  inter : List UInt8
  args : List Int
  text : List UInt8
def p0 : Ps := ⟨0, 0, [], [], []⟩
def at' (st : Nat) : Ps := ⟨st, 0, [], [], []⟩
def gone : Ac := ⟨6, 0, 0, [], [], []⟩

/-- the class of a rune, by its place among the classes -/
def cls (c : Int) : Nat :=
  if c = 24 ∨ c = 26 then 0 else if c = 27 then 1 else if c = 7 then 2 else if 0 ≤ c ∧ c ≤ 31 then 3
  else if 32 ≤ c ∧ c ≤ 47 then 4 else if c = 58 then 5 else if 48 ≤ c ∧ c ≤ 59 then 6 else if 60 ≤ c ∧ c ≤ 63 then 7
  else if c = 91 then 8 else if c = 93 then 9 else if c = 92 then 10 else if c = 80 ∨ c = 88 ∨ c = 94 ∨ c = 95 then 11
  else if 64 ≤ c ∧ c ≤ 126 then 12 else if 160 ≤ c ∧ c ≤ 1114111 then 14 else 13
/-- what is done in a state, by the class: the letters of the document's table, as bytes -/
def row (st : Nat) : List Nat :=
  if st = 0 then [88, 69, 67, 67, 80, 80, 80, 80, 80, 80, 80, 80, 80, 46, 80]
  else if st = 1 then [88, 69, 67, 67, 73, 70, 70, 70, 83, 79, 70, 84, 70, 46, 68]
  else if st = 2 then [88, 69, 67, 67, 74, 70, 70, 70, 70, 70, 70, 70, 70, 46, 68]
  else if st = 3 then [88, 69, 67, 67, 73, 71, 65, 77, 70, 70, 70, 70, 70, 46, 68]
  else if st = 4 then [88, 69, 67, 67, 73, 71, 65, 71, 70, 70, 70, 70, 70, 46, 68]
  else if st = 5 then [88, 69, 67, 67, 74, 71, 71, 71, 70, 70, 70, 70, 70, 46, 68]
  else if st = 6 then [88, 69, 67, 67, 46, 46, 46, 46, 68, 68, 68, 68, 68, 46, 68]
  else if st = 7 then [68, 90, 89, 46, 87, 87, 87, 87, 87, 87, 87, 87, 87, 46, 87]
  else if st = 9 then [68, 90, 46, 46, 46, 46, 46, 46, 46, 46, 46, 46, 46, 46, 46]
  else [82, 82, 82, 82, 82, 82, 82, 82, 82, 82, 89, 82, 82, 82, 82]
/-- what is done at a rune; 46: nothing -/
def what (st : Nat) (k : Nat) : Nat := if st = 0 ∧ k = 0 then 46 else (row st).getD k 46
/-- a sign below 128 -/
def sg (c : Int) : UInt8 := c.toNat.toUInt8
def final (p : Ps) (c : Int) : Ac :=
  if p.inter.length = 3 then gone
  else if p.st < 3 then ⟨3, c, 0, p.inter, [], []⟩
  else ⟨4, c, p.mark, p.inter, (Z.readT p.args).1, []⟩
/-- what a letter of the table does -/
def does (p : Ps) (c : Int) (k : Nat) : Ps × List Ac :=
  if k = 88 ∨ k = 68 then (p0, [gone])
  else if k = 69 then (at' 1, if p.st = 0 then [] else [gone])
  else if k = 67 then (p, [⟨2, c, 0, [], [], []⟩])
  else if k = 80 then (p, [⟨1, c, 0, [], [], []⟩])
  else if k = 73 then (⟨if p.st = 1 then 2 else 5, p.mark, [sg c], p.args, p.text⟩, [])
  else if k = 74 then (if p.inter.length < 3 then ⟨p.st, p.mark, p.inter ++ [sg c], p.args, p.text⟩ else p, [])
  else if k = 65 then (⟨4, p.mark, p.inter, if p.args.length < 100 then p.args ++ [sg c] else p.args, p.text⟩, [])
  else if k = 77 then (⟨4, c, [], [], []⟩, [])
  else if k = 71 then (at' 6, [])
  else if k = 83 then (at' 3, [])
  else if k = 79 then (at' 7, [])
  else if k = 84 then (at' 9, [])
  else if k = 90 then (⟨p.st + 1, p.mark, p.inter, p.args, p.text⟩, [])
  else if k = 87 then (if p.text.length + (encodeRune c).length ≤ 256 then ⟨p.st, p.mark, p.inter, p.args, p.text ++ encodeRune c⟩ else p, [])
  else if k = 89 then (p0, [if 8 < p.st then gone else ⟨5, 0, 0, [], [], p.text⟩])
  else if k = 70 then (p0, [final p c])
  else (p, [])
/-- one rune -/
def step (p : Ps) (c : Int) : Ps × List Ac :=
  if c < 0 ∨ 1114111 < c then (p, [])
  else if what p.st (cls c) = 82 then ((does (at' 1) c (what 1 (cls c))).1, gone :: (does (at' 1) c (what 1 (cls c))).2)
  else does p c (what p.st (cls c))
/-- all runes -/
def run : Ps → List Int → Ps × List Ac
  | p, [] => (p, [])
  | p, c :: r => ((run (step p c).1 r).1, (step p c).2 ++ (run (step p c).1 r).2)

theorem run_app (a b : List Int) : ∀ p : Ps, run p (a ++ b) = ((run (run p a).1 b).1, (run p a).2 ++ (run (run p a).1 b).2) := by
  induction a with
  | nil => intro p; simp [run]
  | cons c a ih =>
    intro p
    rw [List.cons_append, run, run, ih]
    simp
theorem cls_cases (c : Int) : (c = 24 ∨ c = 26) ∧ cls c = 0 ∨ (c = 27) ∧ cls c = 1 ∨ (c = 7) ∧ cls c = 2 ∨ (0 ≤ c ∧ c ≤ 31) ∧ cls c = 3 ∨ (32 ≤ c ∧ c ≤ 47) ∧ cls c = 4 ∨ (c = 58) ∧ cls c = 5 ∨ (48 ≤ c ∧ c ≤ 59) ∧ cls c = 6 ∨ (60 ≤ c ∧ c ≤ 63) ∧ cls c = 7 ∨ (c = 91) ∧ cls c = 8 ∨ (c = 93) ∧ cls c = 9 ∨ (c = 92) ∧ cls c = 10 ∨ (c = 80 ∨ c = 88 ∨ c = 94 ∨ c = 95) ∧ cls c = 11 ∨ (64 ≤ c ∧ c ≤ 126) ∧ cls c = 12 ∨ (160 ≤ c ∧ c ≤ 1114111) ∧ cls c = 14 ∨ (c < 0 ∨ 127 ≤ c ∧ c ≤ 159 ∨ 1114111 < c) ∧ cls c = 13 := by
  by_cases h0 : c = 24 ∨ c = 26
  · exact .inl ⟨h0, by unfold cls; rw [if_pos h0]⟩
  by_cases h1 : c = 27
  · exact .inr (.inl ⟨h1, by unfold cls; rw [if_neg h0, if_pos h1]⟩)
  by_cases h2 : c = 7
  · exact .inr (.inr (.inl ⟨h2, by unfold cls; rw [if_neg h0, if_neg h1, if_pos h2]⟩))
  by_cases h3 : 0 ≤ c ∧ c ≤ 31
  · exact .inr (.inr (.inr (.inl ⟨h3, by unfold cls; rw [if_neg h0, if_neg h1, if_neg h2, if_pos h3]⟩)))
  by_cases h4 : 32 ≤ c ∧ c ≤ 47
  · exact .inr (.inr (.inr (.inr (.inl ⟨h4, by unfold cls; rw [if_neg h0, if_neg h1, if_neg h2, if_neg h3, if_pos h4]⟩))))
  by_cases h5 : c = 58
  · exact .inr (.inr (.inr (.inr (.inr (.inl ⟨h5, by unfold cls; rw [if_neg h0, if_neg h1, if_neg h2, if_neg h3, if_neg h4, if_pos h5]⟩)))))
  by_cases h6 : 48 ≤ c ∧ c ≤ 59
  · exact .inr (.inr (.inr (.inr (.inr (.inr (.inl ⟨h6, by unfold cls; rw [if_neg h0, if_neg h1, if_neg h2, if_neg h3, if_neg h4, if_neg h5, if_pos h6]⟩))))))
  by_cases h7 : 60 ≤ c ∧ c ≤ 63
  · exact .inr (.inr (.inr (.inr (.inr (.inr (.inr (.inl ⟨h7, by unfold cls; rw [if_neg h0, if_neg h1, if_neg h2, if_neg h3, if_neg h4, if_neg h5, if_neg h6, if_pos h7]⟩)))))))
  by_cases h8 : c = 91
  · exact .inr (.inr (.inr (.inr (.inr (.inr (.inr (.inr (.inl ⟨h8, by unfold cls; rw [if_neg h0, if_neg h1, if_neg h2, if_neg h3, if_neg h4, if_neg h5, if_neg h6, if_neg h7, if_pos h8]⟩))))))))
  by_cases h9 : c = 93
  · exact .inr (.inr (.inr (.inr (.inr (.inr (.inr (.inr (.inr (.inl ⟨h9, by unfold cls; rw [if_neg h0, if_neg h1, if_neg h2, if_neg h3, if_neg h4, if_neg h5, if_neg h6, if_neg h7, if_neg h8, if_pos h9]⟩)))))))))
  by_cases h10 : c = 92
  · exact .inr (.inr (.inr (.inr (.inr (.inr (.inr (.inr (.inr (.inr (.inl ⟨h10, by unfold cls; rw [if_neg h0, if_neg h1, if_neg h2, if_neg h3, if_neg h4, if_neg h5, if_neg h6, if_neg h7, if_neg h8, if_neg h9, if_pos h10]⟩))))))))))
  by_cases h11 : c = 80 ∨ c = 88 ∨ c = 94 ∨ c = 95
  · exact .inr (.inr (.inr (.inr (.inr (.inr (.inr (.inr (.inr (.inr (.inr (.inl ⟨h11, by unfold cls; rw [if_neg h0, if_neg h1, if_neg h2, if_neg h3, if_neg h4, if_neg h5, if_neg h6, if_neg h7, if_neg h8, if_neg h9, if_neg h10, if_pos h11]⟩)))))))))))
  by_cases h12 : 64 ≤ c ∧ c ≤ 126
  · exact .inr (.inr (.inr (.inr (.inr (.inr (.inr (.inr (.inr (.inr (.inr (.inr (.inl ⟨h12, by unfold cls; rw [if_neg h0, if_neg h1, if_neg h2, if_neg h3, if_neg h4, if_neg h5, if_neg h6, if_neg h7, if_neg h8, if_neg h9, if_neg h10, if_neg h11, if_pos h12]⟩))))))))))))
  by_cases h13 : 160 ≤ c ∧ c ≤ 1114111
  · exact .inr (.inr (.inr (.inr (.inr (.inr (.inr (.inr (.inr (.inr (.inr (.inr (.inr (.inl ⟨h13, by unfold cls; rw [if_neg h0, if_neg h1, if_neg h2, if_neg h3, if_neg h4, if_neg h5, if_neg h6, if_neg h7, if_neg h8, if_neg h9, if_neg h10, if_neg h11, if_neg h12, if_pos h13]⟩)))))))))))))
  exact .inr (.inr (.inr (.inr (.inr (.inr (.inr (.inr (.inr (.inr (.inr (.inr (.inr (.inr (⟨by omega, by unfold cls; rw [if_neg h0, if_neg h1, if_neg h2, if_neg h3, if_neg h4, if_neg h5, if_neg h6, if_neg h7, if_neg h8, if_neg h9, if_neg h10, if_neg h11, if_neg h12, if_neg h13]⟩))))))))))))))
theorem cls_lt (c : Int) : cls c < 15 := by
  have := cls_cases c
  omega

/-- the bytes that may stand between -/
def mid (b : UInt8) : Prop := 32 ≤ b.toNat ∧ b.toNat ≤ 47
structure right (p : Ps) : Prop where
  st : p.st ≤ 10
  mark : p.mark = 0 ∨ 60 ≤ p.mark ∧ p.mark ≤ 63 ∧ (p.st = 4 ∨ p.st = 5)
  ilen : p.inter.length ≤ 3
  inter : p.inter = [] ↔ ¬ (p.st = 2 ∨ p.st = 5)
  alen : p.args.length ≤ 100
  args : p.args = [] ∨ p.st = 4 ∨ p.st = 5
  tlen : p.text.length ≤ 256
  text : p.text = [] ∨ p.st = 7 ∨ p.st = 8
  mids : ∀ b ∈ p.inter, mid b
  signs : ∀ b ∈ p.args, Z.okB b = true
theorem right_at (st : Nat) (h : st ≤ 10) (h2 : ¬ (st = 2 ∨ st = 5)) : right (at' st) :=
  ⟨h, .inl rfl, Nat.zero_le _, ⟨fun _ => h2, fun _ => rfl⟩, Nat.zero_le _, .inl rfl, Nat.zero_le _, .inl rfl, fun _ hb => (by cases hb), fun _ hb => (by cases hb)⟩
theorem right_p0 : right p0 := right_at 0 (by decide) (by decide)
end Go.Proofs.YtneiiinheimglaaGreatDoor.B
namespace Go.Proofs.YtneiiinheimglaaGreatDoor.B
open Go.Lib Go.Proofs.YtneiiinheimglaaGreatDoor

/-- which letters stand where in the table -/
def specB (st k w : Nat) : Bool :=
  decide (w = 46) || decide ((w = 88 ∨ w = 68) ∧ st ≠ 0) || decide ((w = 69 ∧ k = 1 ∧ st ≤ 6)) || decide ((w = 67 ∧ (k = 2 ∨ k = 3) ∧ st ≤ 6)) || decide ((w = 80 ∧ st = 0 ∧ 4 ≤ k ∧ k ≠ 13)) || decide ((w = 73 ∧ k = 4 ∧ (st = 1 ∨ st = 3 ∨ st = 4))) || decide ((w = 74 ∧ k = 4 ∧ (st = 2 ∨ st = 5))) || decide ((w = 65 ∧ k = 6 ∧ (st = 3 ∨ st = 4))) || decide ((w = 77 ∧ k = 7 ∧ st = 3)) || decide ((w = 71 ∧ 5 ≤ k ∧ k ≤ 7 ∧ (st = 3 ∨ st = 4 ∨ st = 5))) || decide ((w = 83 ∧ st = 1 ∧ k = 8)) || decide ((w = 79 ∧ st = 1 ∧ k = 9)) || decide ((w = 84 ∧ st = 1 ∧ k = 11)) || decide ((w = 90 ∧ k = 1 ∧ (st = 7 ∨ st = 9))) || decide ((w = 87 ∧ st = 7 ∧ 4 ≤ k ∧ k ≠ 13)) || decide ((w = 89 ∧ (st = 7 ∧ k = 2 ∨ (st = 8 ∨ st = 10) ∧ k = 10))) || decide ((w = 70 ∧ (st = 1 ∧ (k = 5 ∨ k = 6 ∨ k = 7 ∨ k = 10 ∨ k = 12) ∨ st = 2 ∧ 5 ≤ k ∧ k ≤ 12 ∨ 3 ≤ st ∧ st ≤ 5 ∧ 8 ≤ k ∧ k ≤ 12))) || decide ((w = 82 ∧ (st = 8 ∨ st = 10) ∧ k ≠ 10))
def spec (st k w : Nat) : Prop :=
  (w = 46) ∨ ((w = 88 ∨ w = 68) ∧ st ≠ 0) ∨ ((w = 69 ∧ k = 1 ∧ st ≤ 6)) ∨ ((w = 67 ∧ (k = 2 ∨ k = 3) ∧ st ≤ 6)) ∨ ((w = 80 ∧ st = 0 ∧ 4 ≤ k ∧ k ≠ 13)) ∨ ((w = 73 ∧ k = 4 ∧ (st = 1 ∨ st = 3 ∨ st = 4))) ∨ ((w = 74 ∧ k = 4 ∧ (st = 2 ∨ st = 5))) ∨ ((w = 65 ∧ k = 6 ∧ (st = 3 ∨ st = 4))) ∨ ((w = 77 ∧ k = 7 ∧ st = 3)) ∨ ((w = 71 ∧ 5 ≤ k ∧ k ≤ 7 ∧ (st = 3 ∨ st = 4 ∨ st = 5))) ∨ ((w = 83 ∧ st = 1 ∧ k = 8)) ∨ ((w = 79 ∧ st = 1 ∧ k = 9)) ∨ ((w = 84 ∧ st = 1 ∧ k = 11)) ∨ ((w = 90 ∧ k = 1 ∧ (st = 7 ∨ st = 9))) ∨ ((w = 87 ∧ st = 7 ∧ 4 ≤ k ∧ k ≠ 13)) ∨ ((w = 89 ∧ (st = 7 ∧ k = 2 ∨ (st = 8 ∨ st = 10) ∧ k = 10))) ∨ ((w = 70 ∧ (st = 1 ∧ (k = 5 ∨ k = 6 ∨ k = 7 ∨ k = 10 ∨ k = 12) ∨ st = 2 ∧ 5 ≤ k ∧ k ≤ 12 ∨ 3 ≤ st ∧ st ≤ 5 ∧ 8 ≤ k ∧ k ≤ 12))) ∨ ((w = 82 ∧ (st = 8 ∨ st = 10) ∧ k ≠ 10))
theorem spec_of {st k w : Nat} (h : specB st k w = true) : spec st k w := by
  unfold specB at h
  unfold spec
  simp only [Bool.or_eq_true, decide_eq_true_eq, or_assoc] at h
  exact h
theorem letters (st k : Nat) (h : st ≤ 10) (hk : k < 15) : spec st k (what st k) := by
  have all : ∀ st, st < 11 → ∀ k, k < 15 → specB st k (what st k) = true := by decide +kernel
  exact spec_of (all st (by omega) k hk)
theorem sg_nat {c : Int} (h0 : 0 ≤ c) (h : c < 256) : ((sg c).toNat : Int) = c := by
  unfold sg
  simp only [Nat.toUInt8, UInt8.toNat_ofNat']
  omega
theorem mid_sg {c : Int} (h : 32 ≤ c ∧ c ≤ 47) : mid (sg c) := by
  have := sg_nat (c := c) (by omega) (by omega)
  unfold mid
  omega
theorem okB_sg {c : Int} (h : c ≠ 58) (h2 : 48 ≤ c ∧ c ≤ 59) : Z.okB (sg c) = true := by
  have e := sg_nat (c := c) (by omega) (by omega)
  unfold Z.okB
  by_cases h3 : c = 59
  · subst h3; rfl
  · have hd : Z.dig (sg c) = true := Z.dig_iff.2 ⟨by omega, by omega⟩
    rw [hd]; rfl

theorem does_right {p : Ps} (hp : right p) {c : Int} (hw : what p.st (cls c) ≠ 82) : right (does p c (what p.st (cls c))).1 := by
  have hl := letters p.st (cls c) hp.st (cls_lt c)
  have hc := cls_cases c
  unfold spec at hl
  generalize what p.st (cls c) = w at *
  rcases hl with rfl | ⟨rfl | rfl, h⟩ | ⟨rfl, h⟩ | ⟨rfl, h⟩ | ⟨rfl, h⟩ | ⟨rfl, h⟩ | ⟨rfl, h⟩ | ⟨rfl, h⟩ | ⟨rfl, h⟩ | ⟨rfl, h⟩ | ⟨rfl, h⟩ | ⟨rfl, h⟩ | ⟨rfl, h⟩ | ⟨rfl, h⟩ | ⟨rfl, h⟩ | ⟨rfl, h⟩ | ⟨rfl, h⟩ | ⟨rfl, h⟩
  · exact hp
  · exact right_p0
  · exact right_p0
  · exact right_at 1 (by decide) (by decide)
  · exact hp
  · exact hp
  · -- I
    have hi : p.inter = [] := hp.inter.2 (by omega)
    have ht : p.text = [] := hp.text.elim id (fun h2 => by omega)
    have ha : p.args = [] ∨ p.st = 4 := hp.args.elim .inl (fun h2 => by rcases h2 with h2 | h2; exact .inr h2; omega)
    have hm : p.mark = 0 ∨ 60 ≤ p.mark ∧ p.mark ≤ 63 ∧ p.st = 4 := hp.mark.elim .inl (fun h2 => .inr (by omega))
    have hmid := mid_sg (c := c) (by omega)
    show right ⟨if p.st = 1 then 2 else 5, p.mark, [sg c], p.args, p.text⟩
    by_cases h1 : p.st = 1
    · rw [if_pos h1]
      have ha1 : p.args = [] := ha.elim id (fun h2 => by omega)
      refine ⟨by show 2 ≤ 10; decide, .inl (hm.elim id (fun h2 => by omega)), by show 1 ≤ 3; decide, ⟨fun h => (by cases h), fun h => absurd (.inl rfl) h⟩, hp.alen, .inl ha1, hp.tlen, .inl ht, fun b hb => ?_, hp.signs⟩
      rw [List.mem_singleton.1 hb]; exact hmid
    · rw [if_neg h1]
      refine ⟨by show 5 ≤ 10; decide, hm.elim .inl (fun h2 => .inr ⟨h2.1, h2.2.1, .inr rfl⟩), by show 1 ≤ 3; decide, ⟨fun h => (by cases h), fun h => absurd (.inr rfl) h⟩, hp.alen, .inr (.inr rfl), hp.tlen, .inl ht, fun b hb => ?_, hp.signs⟩
      rw [List.mem_singleton.1 hb]; exact hmid
  · -- J
    have hmid := mid_sg (c := c) (by omega)
    show right (if p.inter.length < 3 then ⟨p.st, p.mark, p.inter ++ [sg c], p.args, p.text⟩ else p)
    split
    · rename_i h3
      refine ⟨hp.st, hp.mark, by rw [List.length_append]; simp; omega, ⟨fun h => by simp at h, fun h2 => absurd h.2 h2⟩, hp.alen, hp.args, hp.tlen, hp.text, fun b hb => ?_, hp.signs⟩
      rcases List.mem_append.1 hb with h4 | h4
      · exact hp.mids b h4
      · rw [List.mem_singleton.1 h4]; exact hmid
    · exact hp
  · -- A
    have hi : p.inter = [] := hp.inter.2 (by omega)
    have ht : p.text = [] := hp.text.elim id (fun h2 => by omega)
    have h58 : c ≠ 58 := fun e => by rw [e] at h; exact absurd h.1 (by decide)
    have h48 : 48 ≤ c ∧ c ≤ 59 := by omega
    have hok := okB_sg (c := c) h58 h48
    refine ⟨by show 4 ≤ 10; decide, hp.mark.elim .inl (fun h2 => .inr ⟨h2.1, h2.2.1, .inl rfl⟩), hp.ilen, ⟨fun _ => by show ¬ (4 = 2 ∨ 4 = 5); decide, fun _ => hi⟩, ?_, .inr (.inl rfl), hp.tlen, .inl ht, hp.mids, ?_⟩
    · show (if p.args.length < 100 then p.args ++ [sg c] else p.args).length ≤ 100
      split
      · rw [List.length_append]; simp; omega
      · exact hp.alen
    · show ∀ b ∈ (if p.args.length < 100 then p.args ++ [sg c] else p.args), Z.okB b = true
      split
      · intro b hb
        rcases List.mem_append.1 hb with h4 | h4
        · exact hp.signs b h4
        · rw [List.mem_singleton.1 h4]; exact hok
      · exact hp.signs
  · -- M
    refine ⟨by show 4 ≤ 10; decide, .inr ⟨by show 60 ≤ c; omega, by show c ≤ 63; omega, .inl rfl⟩, Nat.zero_le _, ⟨fun _ => by show ¬ (4 = 2 ∨ 4 = 5); decide, fun _ => rfl⟩, Nat.zero_le _, .inl rfl, Nat.zero_le _, .inl rfl, fun b hb => (by cases hb), fun b hb => (by cases hb)⟩
  · exact right_at 6 (by decide) (by decide)
  · exact right_at 3 (by decide) (by decide)
  · exact right_at 7 (by decide) (by decide)
  · exact right_at 9 (by decide) (by decide)
  · -- Z
    have hi : p.inter = [] := hp.inter.2 (by omega)
    have ha : p.args = [] := hp.args.elim id (fun h2 => by omega)
    have hm : p.mark = 0 := hp.mark.elim id (fun h2 => by omega)
    have ht : p.text = [] ∨ p.st = 7 := hp.text.elim .inl (fun h2 => .inr (by omega))
    refine ⟨by show p.st + 1 ≤ 10; omega, .inl hm, hp.ilen, ⟨fun _ => by show ¬ (p.st + 1 = 2 ∨ p.st + 1 = 5); omega, fun _ => hi⟩, hp.alen, .inl ha, hp.tlen, ht.elim .inl (fun h2 => .inr (.inr (by show p.st + 1 = 8; omega))), hp.mids, hp.signs⟩
  · -- W
    show right (if p.text.length + (encodeRune c).length ≤ 256 then ⟨p.st, p.mark, p.inter, p.args, p.text ++ encodeRune c⟩ else p)
    split
    · rename_i h3
      exact ⟨hp.st, hp.mark, hp.ilen, hp.inter, hp.alen, hp.args, by rw [List.length_append]; exact h3, .inr (.inl h.1), hp.mids, hp.signs⟩
    · exact hp
  · exact right_p0
  · exact right_p0
  · exact absurd rfl hw

theorem what_one (k : Nat) (hk : k < 15) : what 1 k ≠ 82 := by
  have h := letters 1 k (by decide) hk
  unfold spec at h
  omega
theorem step_right {p : Ps} (hp : right p) (c : Int) : right (step p c).1 := by
  unfold step
  split
  · exact hp
  · split
    · exact does_right (p := at' 1) (right_at 1 (by decide) (by decide)) (what_one _ (cls_lt c))
    · rename_i h
      exact does_right hp h
theorem run_right : ∀ (l : List Int) {p : Ps}, right p → right (run p l).1
  | [], _, h => h
  | c :: r, _, h => run_right r (step_right h c)
theorem ground {p : Ps} (hp : right p) (h : p.st = 0) : p = p0 := by
  have hi : p.inter = [] := hp.inter.2 (by omega)
  have ha : p.args = [] := hp.args.elim id (fun h2 => by omega)
  have hm : p.mark = 0 := hp.mark.elim id (fun h2 => by omega)
  have ht : p.text = [] := hp.text.elim id (fun h2 => by omega)
  obtain ⟨a, b, c, d, e⟩ := p
  dsimp only at *
  subst h hi ha hm ht
  rfl
/-- behind 24 all is as at first -/
theorem heals {p : Ps} (hp : right p) : (step p 24).1 = p0 := by
  have hst := hp.st
  have all : ∀ st, st < 11 → (what st 0 = 46 ∧ st = 0) ∨ what st 0 = 88 ∨ what st 0 = 68 ∨ what st 0 = 82 := by decide +kernel
  have hc : cls 24 = 0 := rfl
  unfold step
  rw [if_neg (by decide), hc]
  rcases all p.st (by omega) with ⟨h, h0⟩ | h | h | h
  · rw [h, if_neg (by decide)]
    exact ground hp h0
  · rw [h, if_neg (by decide)]; rfl
  · rw [h, if_neg (by decide)]; rfl
  · rw [h, if_pos rfl]; rfl
end Go.Proofs.YtneiiinheimglaaGreatDoor.B
namespace Go.Proofs.YtneiiinheimglaaGreatDoor.B
open Go.Lib Go.Proofs.YtneiiinheimglaaGreatDoor

@[reducible] def canPrint (c : Int) : Prop := 32 ≤ c ∧ c ≤ 126 ∨ 160 ≤ c ∧ c ≤ 1114111
def plainInter (l : List UInt8) : Prop := l.length ≤ 2 ∧ ∀ b ∈ l, mid b
@[reducible] def special (c : Int) : Prop := c = 91 ∨ c = 93 ∨ c = 80 ∨ c = 88 ∨ c = 94 ∨ c = 95
/-- of what make an act is -/
def shape (a : Ac) : Prop :=
  a = gone ∨ (a = ⟨1, a.code, 0, [], [], []⟩ ∧ canPrint a.code) ∨ (a = ⟨2, a.code, 0, [], [], []⟩ ∧ 0 ≤ a.code ∧ a.code ≤ 31 ∧ a.code ≠ 24 ∧ a.code ≠ 26 ∧ a.code ≠ 27) ∨
  (a = ⟨3, a.code, 0, a.inter, [], []⟩ ∧ 48 ≤ a.code ∧ a.code ≤ 126 ∧ plainInter a.inter ∧ (a.inter = [] → ¬ special a.code)) ∨
  (a = ⟨4, a.code, a.mark, a.inter, a.args, []⟩ ∧ 64 ≤ a.code ∧ a.code ≤ 126 ∧ (a.mark = 0 ∨ 60 ≤ a.mark ∧ a.mark ≤ 63) ∧ plainInter a.inter ∧ ∃ s, Z.okS s = true ∧ s.length ≤ 100 ∧ a.args = (Z.readT s).1) ∨
  (a = ⟨5, 0, 0, [], [], a.text⟩ ∧ a.text.length ≤ 256)

theorem cls_final {c : Int} (h : 5 ≤ cls c ∧ cls c ≤ 12) : 48 ≤ c ∧ c ≤ 126 := by
  rcases cls_cases c with h1 | h1 | h1 | h1 | h1 | h1 | h1 | h1 | h1 | h1 | h1 | h1 | h1 | h1 | h1 <;> omega
theorem cls_letter {c : Int} (h : 8 ≤ cls c ∧ cls c ≤ 12) : 64 ≤ c ∧ c ≤ 126 := by
  rcases cls_cases c with h1 | h1 | h1 | h1 | h1 | h1 | h1 | h1 | h1 | h1 | h1 | h1 | h1 | h1 | h1 <;> omega
theorem cls_special {c : Int} (h : special c) : cls c = 8 ∨ cls c = 9 ∨ cls c = 11 := by
  unfold special at h
  rcases h with rfl | rfl | rfl | rfl | rfl | rfl <;> decide
theorem gone_shape : shape gone := .inl rfl
theorem okS_all {s : List UInt8} (h : ∀ b ∈ s, Z.okB b = true) : Z.okS s = true := by
  unfold Z.okS
  rw [List.all_eq_true]
  exact h
theorem final_shape {p : Ps} (hp : right p) {c : Int} (h : p.st = 1 ∧ (cls c = 5 ∨ cls c = 6 ∨ cls c = 7 ∨ cls c = 10 ∨ cls c = 12) ∨ p.st = 2 ∧ 5 ≤ cls c ∧ cls c ≤ 12 ∨ 3 ≤ p.st ∧ p.st ≤ 5 ∧ 8 ≤ cls c ∧ cls c ≤ 12) : shape (final p c) := by
  unfold final
  split
  · exact gone_shape
  · rename_i h3
    have hi : plainInter p.inter := ⟨by have := hp.ilen; omega, hp.mids⟩
    have hkk : 5 ≤ cls c ∧ cls c ≤ 12 := by omega
    have hf := cls_final hkk
    split
    · rename_i hs
      refine .inr (.inr (.inr (.inl ⟨rfl, hf.1, hf.2, hi, fun h0 h7 => ?_⟩)))
      have h0' : p.inter = [] := h0
      have h1 := hp.inter.1 h0'
      have h8 := cls_special (c := c) h7
      omega
    · rename_i hs
      have h8 : 8 ≤ cls c ∧ cls c ≤ 12 := by omega
      have hl := cls_letter h8
      exact .inr (.inr (.inr (.inr (.inl ⟨rfl, hl.1, hl.2, hp.mark.elim .inl (fun h => .inr ⟨h.1, h.2.1⟩), hi, p.args, okS_all hp.signs, hp.alen, rfl⟩))))
theorem does_shape {p : Ps} (hp : right p) {c : Int} (hw : what p.st (cls c) ≠ 82) : ∀ a ∈ (does p c (what p.st (cls c))).2, shape a := by
  have hl := letters p.st (cls c) hp.st (cls_lt c)
  have hc := cls_cases c
  unfold spec at hl
  have none : ∀ a ∈ ([] : List Ac), shape a := fun _ h => by cases h
  have one : ∀ x : Ac, shape x → ∀ a ∈ [x], shape a := fun x h a ha => by rw [List.mem_singleton.1 ha]; exact h
  generalize what p.st (cls c) = w at *
  rcases hl with rfl | ⟨rfl | rfl, h⟩ | ⟨rfl, h⟩ | ⟨rfl, h⟩ | ⟨rfl, h⟩ | ⟨rfl, h⟩ | ⟨rfl, h⟩ | ⟨rfl, h⟩ | ⟨rfl, h⟩ | ⟨rfl, h⟩ | ⟨rfl, h⟩ | ⟨rfl, h⟩ | ⟨rfl, h⟩ | ⟨rfl, h⟩ | ⟨rfl, h⟩ | ⟨rfl, h⟩ | ⟨rfl, h⟩ | ⟨rfl, h⟩
  · exact none
  · exact one _ gone_shape
  · exact one _ gone_shape
  · show ∀ a ∈ (if p.st = 0 then [] else [gone]), shape a
    split
    · exact none
    · exact one _ gone_shape
  · refine one _ (.inr (.inr (.inl ⟨rfl, ?_, ?_, ?_, ?_, ?_⟩)))
    · show 0 ≤ c; omega
    · show c ≤ 31; omega
    · show ¬ c = 24; exact fun e => by rw [e] at h; exact absurd h.1 (by decide)
    · show ¬ c = 26; exact fun e => by rw [e] at h; exact absurd h.1 (by decide)
    · show ¬ c = 27; exact fun e => by rw [e] at h; exact absurd h.1 (by decide)
  · refine one _ (.inr (.inl ⟨rfl, ?_⟩))
    show canPrint c
    unfold canPrint
    omega
  · exact none
  · show ∀ a ∈ (if p.inter.length < 3 then (⟨p.st, p.mark, p.inter ++ [sg c], p.args, p.text⟩ : Ps) else p, ([] : List Ac)).2, shape a
    exact none
  · exact none
  · exact none
  · exact none
  · exact none
  · exact none
  · exact none
  · exact none
  · show ∀ a ∈ (if p.text.length + (encodeRune c).length ≤ 256 then (⟨p.st, p.mark, p.inter, p.args, p.text ++ encodeRune c⟩ : Ps) else p, ([] : List Ac)).2, shape a
    exact none
  · show ∀ a ∈ [if 8 < p.st then gone else ⟨5, 0, 0, [], [], p.text⟩], shape a
    refine one _ ?_
    split
    · exact gone_shape
    · exact .inr (.inr (.inr (.inr (.inr ⟨rfl, hp.tlen⟩))))
  · exact one _ (final_shape hp h)
  · exact absurd rfl hw
theorem step_shape {p : Ps} (hp : right p) (c : Int) : ∀ a ∈ (step p c).2, shape a := by
  unfold step
  split
  · intro a ha; cases ha
  · split
    · intro a ha
      rcases List.mem_cons.1 ha with h | h
      · rw [h]; exact gone_shape
      · exact does_shape (p := at' 1) (right_at 1 (by decide) (by decide)) (what_one _ (cls_lt c)) a h
    · rename_i h
      exact does_shape hp h
theorem run_shape : ∀ (l : List Int) {p : Ps}, right p → ∀ a ∈ (run p l).2, shape a
  | [], _, _, a, ha => by cases ha
  | c :: r, _, h, a, ha => (List.mem_append.1 ha).elim (step_shape h c a) (run_shape r (step_right h c) a)

/-- how many controls -/
def ctrls (l : List Ac) : Nat := (l.filter fun a => decide (a.kind = 2)).length
def controls (l : List Int) : Nat := (l.filter fun c => decide (0 ≤ c ∧ c < 32)).length
theorem ctrls_app (a b : List Ac) : ctrls (a ++ b) = ctrls a + ctrls b := by unfold ctrls; rw [List.filter_append, List.length_append]
theorem does_ctrls {p : Ps} (hp : right p) {c : Int} : ctrls (does p c (what p.st (cls c))).2 ≤ controls [c] := by
  have hl := letters p.st (cls c) hp.st (cls_lt c)
  have hc := cls_cases c
  unfold spec at hl
  have none : ∀ n, ctrls [] ≤ n := fun n => Nat.zero_le n
  have one : ∀ (x : Ac) n, x.kind ≠ 2 → ctrls [x] ≤ n := fun x n h => by unfold ctrls; rw [List.filter_cons_of_neg (by simpa using h)]; exact Nat.zero_le _
  generalize what p.st (cls c) = w at *
  rcases hl with rfl | ⟨rfl | rfl, h⟩ | ⟨rfl, h⟩ | ⟨rfl, h⟩ | ⟨rfl, h⟩ | ⟨rfl, h⟩ | ⟨rfl, h⟩ | ⟨rfl, h⟩ | ⟨rfl, h⟩ | ⟨rfl, h⟩ | ⟨rfl, h⟩ | ⟨rfl, h⟩ | ⟨rfl, h⟩ | ⟨rfl, h⟩ | ⟨rfl, h⟩ | ⟨rfl, h⟩ | ⟨rfl, h⟩ | ⟨rfl, h⟩
  · exact none _
  · exact one _ _ (by decide)
  · exact one _ _ (by decide)
  · show ctrls (if p.st = 0 then [] else [gone]) ≤ _
    split
    · exact none _
    · exact one _ _ (by decide)
  · have e : controls [c] = 1 := by
      unfold controls
      rw [List.filter_cons_of_pos (by simp; omega)]; rfl
    rw [e]; exact Nat.le_refl _
  · exact one _ _ (by show ¬ (1 : Int) = 2; decide)
  · exact none _
  · exact none _
  · exact none _
  · exact none _
  · exact none _
  · exact none _
  · exact none _
  · exact none _
  · exact none _
  · exact none _
  · show ctrls [if 8 < p.st then gone else ⟨5, 0, 0, [], [], p.text⟩] ≤ _
    refine one _ _ ?_
    split
    · decide
    · show ¬ (5 : Int) = 2; decide
  · refine one _ _ ?_
    show (final p c).kind ≠ 2
    unfold final
    split
    · decide
    · split <;> simp
  · exact none _
theorem step_ctrls {p : Ps} (hp : right p) (c : Int) : ctrls (step p c).2 ≤ controls [c] := by
  unfold step
  split
  · exact Nat.zero_le _
  · split
    · have := does_ctrls (p := at' 1) (right_at 1 (by decide) (by decide)) (c := c)
      exact this
    · exact does_ctrls hp
theorem run_ctrls : ∀ (l : List Int) {p : Ps}, right p → ctrls (run p l).2 ≤ controls l
  | [], _, _ => Nat.le_refl _
  | c :: r, p, h => by
    have h1 := step_ctrls h c
    have h2 := run_ctrls r (step_right h c)
    have e : controls (c :: r) = controls [c] + controls r := by
      unfold controls
      rw [← List.length_append, ← List.filter_append]; rfl
    rw [run, ctrls_app, e]
    omega
/-- no more than two acts a rune -/
theorem step_few (p : Ps) (c : Int) : (step p c).2.length ≤ 2 := by
  have hd : ∀ (p : Ps) w, (does p c w).2.length ≤ 1 := fun p w => by
    unfold does
    by_cases h0 : w = 88 ∨ w = 68
    · rw [if_pos h0]; exact Nat.le_refl 1
    rw [if_neg h0]
    by_cases h1 : w = 69
    · rw [if_pos h1]; show (if p.st = 0 then [] else [gone] : List Ac).length ≤ 1; split <;> decide
    rw [if_neg h1]
    by_cases h2 : w = 67
    · rw [if_pos h2]; exact Nat.le_refl 1
    rw [if_neg h2]
    by_cases h3 : w = 80
    · rw [if_pos h3]; exact Nat.le_refl 1
    rw [if_neg h3]
    by_cases h4 : w = 73
    · rw [if_pos h4]; exact Nat.zero_le 1
    rw [if_neg h4]
    by_cases h5 : w = 74
    · rw [if_pos h5]; exact Nat.zero_le 1
    rw [if_neg h5]
    by_cases h6 : w = 65
    · rw [if_pos h6]; exact Nat.zero_le 1
    rw [if_neg h6]
    by_cases h7 : w = 77
    · rw [if_pos h7]; exact Nat.zero_le 1
    rw [if_neg h7]
    by_cases h8 : w = 71
    · rw [if_pos h8]; exact Nat.zero_le 1
    rw [if_neg h8]
    by_cases h9 : w = 83
    · rw [if_pos h9]; exact Nat.zero_le 1
    rw [if_neg h9]
    by_cases h10 : w = 79
    · rw [if_pos h10]; exact Nat.zero_le 1
    rw [if_neg h10]
    by_cases h11 : w = 84
    · rw [if_pos h11]; exact Nat.zero_le 1
    rw [if_neg h11]
    by_cases h12 : w = 90
    · rw [if_pos h12]; exact Nat.zero_le 1
    rw [if_neg h12]
    by_cases h13 : w = 87
    · rw [if_pos h13]; exact Nat.zero_le 1
    rw [if_neg h13]
    by_cases h14 : w = 89
    · rw [if_pos h14]; exact Nat.le_refl 1
    rw [if_neg h14]
    by_cases h15 : w = 70
    · rw [if_pos h15]; exact Nat.le_refl 1
    rw [if_neg h15]
    exact Nat.zero_le 1
  unfold step
  split
  · exact Nat.zero_le _
  · split
    · have := hd (at' 1) (what 1 (cls c)); simp only [List.length_cons]; omega
    · have := hd p (what p.st (cls c)); omega
theorem run_few : ∀ (l : List Int) (p : Ps), (run p l).2.length ≤ 2 * l.length
  | [], _ => Nat.le_refl _
  | c :: r, p => by
    have h1 := step_few p c
    have h2 := run_few r (step p c).1
    rw [run, List.length_append, List.length_cons]
    omega
/-- runes without controls -/
theorem step_plain {c : Int} (h : ¬ (0 ≤ c ∧ c < 32)) : step p0 c = (p0, if 32 ≤ c ∧ c ≤ 1114111 ∧ (c < 127 ∨ 160 ≤ c) then [⟨1, c, 0, [], [], []⟩] else []) := by
  have hc := cls_cases c
  unfold step
  by_cases h1 : c < 0 ∨ 1114111 < c
  · rw [if_pos h1, if_neg (by omega)]
  · rw [if_neg h1]
    have hw : what 0 (cls c) = 80 ∧ 4 ≤ cls c ∧ cls c ≠ 13 ∨ what 0 (cls c) = 46 ∧ cls c = 13 := by
      have all : ∀ k, k < 15 → k = 0 ∨ k = 1 ∨ k = 2 ∨ k = 3 ∨ (what 0 k = 80 ∧ 4 ≤ k ∧ k ≠ 13) ∨ (what 0 k = 46 ∧ k = 13) := by decide +kernel
      have := all (cls c) (cls_lt c)
      omega
    have e0 : p0.st = 0 := rfl
    rw [e0]
    rcases hw with ⟨e, h2, h3⟩ | ⟨e, h2⟩
    · rw [e, if_neg (by decide), if_pos (by omega)]
      rfl
    · rw [e, if_neg (by decide), if_neg (by omega)]
      rfl
end Go.Proofs.YtneiiinheimglaaGreatDoor.B
namespace Go.Proofs.YtneiiinheimglaaGreatDoor.B
open Go.Lib Go.Proofs.YtneiiinheimglaaGreatDoor

def asInts (l : List UInt8) : List Int := l.map fun b => (b.toNat : Int)
/-- the runes of a text -/
def runesOf (s : List UInt8) : List Int := (U.rd s).2.map fun (r : Nat) => (r : Int)
/-- what is written of an act, if it may be -/
def wL (a : Ac) : List Int :=
  if a.kind = 1 ∨ a.kind = 2 then [a.code]
  else if a.kind = 3 then 27 :: (asInts a.inter ++ [a.code])
  else if a.kind = 4 then 27 :: 91 :: ((if a.mark = 0 then [] else [a.mark]) ++ (asInts (Z.text a.args) ++ (asInts a.inter ++ [a.code])))
  else 27 :: 93 :: (runesOf a.text ++ [7])
@[reducible] def isR (c : Int) : Prop := 0 ≤ c ∧ c < 55296 ∨ 57344 ≤ c ∧ c ≤ 1114111
/-- may it be written? -/
def wOk (a : Ac) : Prop :=
  (a = ⟨1, a.code, 0, [], [], []⟩ ∧ canPrint a.code ∧ isR a.code) ∨ (a = ⟨2, a.code, 0, [], [], []⟩ ∧ 0 ≤ a.code ∧ a.code ≤ 31 ∧ a.code ≠ 24 ∧ a.code ≠ 26 ∧ a.code ≠ 27) ∨
  (a = ⟨3, a.code, 0, a.inter, [], []⟩ ∧ 48 ≤ a.code ∧ a.code ≤ 126 ∧ plainInter a.inter ∧ (a.inter = [] → ¬ special a.code)) ∨
  (a = ⟨4, a.code, a.mark, a.inter, a.args, []⟩ ∧ 64 ≤ a.code ∧ a.code ≤ 126 ∧ (a.mark = 0 ∨ 60 ≤ a.mark ∧ a.mark ≤ 63) ∧ plainInter a.inter ∧ Z.okL a.args = true ∧ a.args.length ≤ 32 ∧ (Z.text a.args).length ≤ 100) ∨
  (a = ⟨5, 0, 0, [], [], a.text⟩ ∧ a.text.length ≤ 256 ∧ U.encAll (runesOf a.text) = a.text ∧ ∀ c ∈ runesOf a.text, canPrint c)

theorem cls_mid {c : Int} (h : 32 ≤ c ∧ c ≤ 47) : cls c = 4 := by
  rcases cls_cases c with h1 | h1 | h1 | h1 | h1 | h1 | h1 | h1 | h1 | h1 | h1 | h1 | h1 | h1 | h1 <;> omega
theorem cls_from {c : Int} (h : 48 ≤ c ∧ c ≤ 126) : 5 ≤ cls c ∧ cls c ≤ 12 := by
  rcases cls_cases c with h1 | h1 | h1 | h1 | h1 | h1 | h1 | h1 | h1 | h1 | h1 | h1 | h1 | h1 | h1 <;> omega
theorem cls_up {c : Int} (h : 64 ≤ c ∧ c ≤ 126) : 8 ≤ cls c ∧ cls c ≤ 12 := by
  rcases cls_cases c with h1 | h1 | h1 | h1 | h1 | h1 | h1 | h1 | h1 | h1 | h1 | h1 | h1 | h1 | h1 <;> omega
theorem cls_mark {c : Int} (h : 60 ≤ c ∧ c ≤ 63) : cls c = 7 := by
  rcases cls_cases c with h1 | h1 | h1 | h1 | h1 | h1 | h1 | h1 | h1 | h1 | h1 | h1 | h1 | h1 | h1 <;> omega
theorem cls_sign {c : Int} (h : 48 ≤ c ∧ c ≤ 57 ∨ c = 59) : cls c = 6 := by
  rcases cls_cases c with h1 | h1 | h1 | h1 | h1 | h1 | h1 | h1 | h1 | h1 | h1 | h1 | h1 | h1 | h1 <;> omega
theorem cls_print {c : Int} (h : canPrint c) : 4 ≤ cls c ∧ cls c ≠ 13 := by
  unfold canPrint at h
  rcases cls_cases c with h1 | h1 | h1 | h1 | h1 | h1 | h1 | h1 | h1 | h1 | h1 | h1 | h1 | h1 | h1 <;> omega
theorem print_cls {c : Int} (h : 4 ≤ cls c ∧ cls c ≠ 13) : canPrint c := by
  unfold canPrint
  rcases cls_cases c with h1 | h1 | h1 | h1 | h1 | h1 | h1 | h1 | h1 | h1 | h1 | h1 | h1 | h1 | h1 <;> omega
theorem plain_letter {c : Int} (h : ¬ special c) : cls c ≠ 8 ∧ cls c ≠ 9 ∧ cls c ≠ 11 := by
  unfold special at h
  rcases cls_cases c with h1 | h1 | h1 | h1 | h1 | h1 | h1 | h1 | h1 | h1 | h1 | h1 | h1 | h1 | h1 <;> omega

theorem step_of {p : Ps} {c : Int} {w : Nat} (h0 : 0 ≤ c) (h1 : c ≤ 1114111) (hw : what p.st (cls c) = w) (h82 : w ≠ 82) : step p c = does p c w := by
  unfold step
  rw [if_neg (by omega), hw, if_neg h82]
theorem run_step {p q : Ps} {c : Int} {r : List Int} (h : step p c = (q, [])) : run p (c :: r) = run q r := by
  rw [run, h]
  simp
theorem sg_byte (b : UInt8) : sg (b.toNat : Int) = b := by
  unfold sg
  simp
theorem t_mid : what 1 4 = 73 ∧ what 2 4 = 74 ∧ what 3 4 = 73 ∧ what 4 4 = 73 ∧ what 5 4 = 74 := by decide
theorem t_f1 : ∀ k, k < 13 → 5 ≤ k ∧ k ≠ 8 ∧ k ≠ 9 ∧ k ≠ 11 → what 1 k = 70 := by decide +kernel
theorem t_f2 : ∀ k, k < 13 → 5 ≤ k → what 2 k = 70 := by decide +kernel
theorem t_f3 : ∀ k, k < 13 → 8 ≤ k → what 3 k = 70 ∧ what 4 k = 70 ∧ what 5 k = 70 := by decide +kernel
theorem byte_mid {b : UInt8} (h : mid b) : 32 ≤ (b.toNat : Int) ∧ (b.toNat : Int) ≤ 47 := by unfold mid at h; omega
theorem put_first {st : Nat} {m : Int} {args text : List UInt8} {b : UInt8} (hb : mid b) (h : st = 1 ∨ st = 3 ∨ st = 4) : step ⟨st, m, [], args, text⟩ (b.toNat : Int) = (⟨if st = 1 then 2 else 5, m, [b], args, text⟩, []) := by
  have h1 := byte_mid hb
  have hw : what st (cls (b.toNat : Int)) = 73 := by
    rw [cls_mid h1]
    rcases h with rfl | rfl | rfl
    · exact t_mid.1
    · exact t_mid.2.2.1
    · exact t_mid.2.2.2.1
  rw [step_of (w := 73) (by omega) (by omega) hw (by decide)]
  show ((⟨if st = 1 then 2 else 5, m, [sg (b.toNat : Int)], args, text⟩ : Ps), ([] : List Ac)) = _
  rw [sg_byte]
theorem put_more {st : Nat} {m : Int} {inter args text : List UInt8} {b : UInt8} (hb : mid b) (hi : inter.length < 3) (h : st = 2 ∨ st = 5) : step ⟨st, m, inter, args, text⟩ (b.toNat : Int) = (⟨st, m, inter ++ [b], args, text⟩, []) := by
  have h1 := byte_mid hb
  have hw : what st (cls (b.toNat : Int)) = 74 := by
    rw [cls_mid h1]
    rcases h with rfl | rfl
    · exact t_mid.2.1
    · exact t_mid.2.2.2.2
  rw [step_of (w := 74) (by omega) (by omega) hw (by decide)]
  show ((if inter.length < 3 then (⟨st, m, inter ++ [sg (b.toNat : Int)], args, text⟩ : Ps) else ⟨st, m, inter, args, text⟩), ([] : List Ac)) = _
  rw [if_pos hi, sg_byte]
/-- all that may stand between, and where one is then -/
theorem run_inter {st : Nat} {m : Int} {args text : List UInt8} {l : List UInt8} (h : plainInter l) (hs : st = 1 ∨ st = 3 ∨ st = 4) (r : List Int) :
    run ⟨st, m, [], args, text⟩ (asInts l ++ r) = run ⟨if l = [] then st else if st = 1 then 2 else 5, m, l, args, text⟩ r := by
  obtain ⟨h2, hm⟩ := h
  have h25 : (if st = 1 then 2 else 5) = 2 ∨ (if st = 1 then 2 else 5) = 5 := by split; exact .inl rfl; exact .inr rfl
  match l, h2, hm with
  | [], _, _ => rfl
  | [a], _, hm =>
    rw [if_neg (by simp)]
    exact run_step (put_first (hm a (by simp)) hs)
  | [a, b], _, hm =>
    rw [if_neg (by simp)]
    refine (run_step (put_first (hm a (by simp)) hs)).trans ?_
    exact run_step (put_more (hm b (by simp)) (by show 1 < 3; decide) h25)
  | a :: b :: c :: r, h2, _ => simp at h2
theorem final_step {p : Ps} {c : Int} (h0 : 48 ≤ c) (h1 : c ≤ 126) (hw : what p.st (cls c) = 70) : run p [c] = (p0, [final p c]) := by
  rw [run, step_of (w := 70) (by omega) (by omega) hw (by decide)]
  rfl
theorem run_sign {m : Int} {text : List UInt8} : ∀ (s acc : List UInt8) (st : Nat), (st = 3 ∨ st = 4) → Z.okS s = true → acc.length + s.length ≤ 100 → ∀ r : List Int,
    run ⟨st, m, [], acc, text⟩ (asInts s ++ r) = run ⟨if s = [] then st else 4, m, [], acc ++ s, text⟩ r
  | [], acc, st, _, _, _, r => by rw [if_pos rfl, List.append_nil]; rfl
  | b :: s, acc, st, hst, hs, hl, r => by
    unfold Z.okS at hs
    rw [List.all_cons, Bool.and_eq_true] at hs
    have hb : 48 ≤ (b.toNat : Int) ∧ (b.toNat : Int) ≤ 57 ∨ (b.toNat : Int) = 59 := by
      rcases Z.okB_cases hs.1 with h | h
      · rw [h]; exact .inr rfl
      · have := Z.dig_iff.1 h; omega
    simp only [List.length_cons] at hl
    have hw : what st (cls (b.toNat : Int)) = 65 := by
      rw [cls_sign hb]
      rcases hst with rfl | rfl <;> decide
    have hstep : step ⟨st, m, [], acc, text⟩ (b.toNat : Int) = (⟨4, m, [], acc ++ [b], text⟩, []) := by
      rw [step_of (w := 65) (by omega) (by omega) hw (by decide)]
      show ((⟨4, m, [], if acc.length < 100 then acc ++ [sg (b.toNat : Int)] else acc, text⟩ : Ps), ([] : List Ac)) = _
      rw [if_pos (by omega), sg_byte]
    refine (run_step hstep).trans ?_
    show run _ (asInts s ++ r) = _
    have ih := run_sign (m := m) (text := text) s (acc ++ [b]) 4 (.inr rfl) hs.2 (by rw [List.length_append, List.length_singleton]; omega) r
    rw [ite_self] at ih
    have e1 : (if b :: s = [] then st else 4) = 4 := if_neg (List.cons_ne_nil _ _)
    rw [ih, e1, List.append_assoc]
    rfl
theorem encAll_cons (c : Int) (l : List Int) : U.encAll (c :: l) = encodeRune c ++ U.encAll l := rfl
theorem run_text : ∀ (t : List Int) (acc : List UInt8), (∀ c ∈ t, canPrint c) → acc.length + (U.encAll t).length ≤ 256 → ∀ r : List Int, run ⟨7, 0, [], [], acc⟩ (t ++ r) = run ⟨7, 0, [], [], acc ++ U.encAll t⟩ r
  | [], acc, _, _, r => by rw [show U.encAll [] = [] from rfl, List.append_nil]; rfl
  | c :: t, acc, h, hl, r => by
    have hc := h c (by simp)
    have hk := cls_print hc
    have hk2 := cls_lt c
    rw [encAll_cons, List.length_append] at hl
    have hw : what 7 (cls c) = 87 := by
      have all : ∀ k, k < 15 → 4 ≤ k → k ≠ 13 → what 7 k = 87 := by decide +kernel
      exact all _ hk2 hk.1 hk.2
    unfold canPrint at hc
    have hstep : step ⟨7, 0, [], [], acc⟩ c = (⟨7, 0, [], [], acc ++ encodeRune c⟩, []) := by
      rw [step_of (w := 87) (by omega) (by omega) hw (by decide)]
      show ((if acc.length + (encodeRune c).length ≤ 256 then (⟨7, 0, [], [], acc ++ encodeRune c⟩ : Ps) else ⟨7, 0, [], [], acc⟩), ([] : List Ac)) = _
      rw [if_pos (by omega)]
    refine (run_step hstep).trans ?_
    show run _ (t ++ r) = _
    rw [run_text t (acc ++ encodeRune c) (fun x hx => h x (by simp [hx])) (by rw [List.length_append]; omega) r, encAll_cons, List.append_assoc]

/-- what is written is read as it was -/
theorem back {a : Ac} (h : wOk a) : run p0 (wL a) = (p0, [a]) := by
  rcases h with ⟨e, hc, _⟩ | ⟨e, h0, h1, h2, h3, h4⟩ | ⟨e, h0, h1, hi, hs⟩ | ⟨e, h0, h1, hm, hi, hk, h32, h100⟩ | ⟨e, hl, he, hc⟩
  · have hw : wL a = [a.code] := by rw [e]; rfl
    rw [hw]
    have hs := step_plain (c := a.code) (by unfold canPrint at hc; omega)
    rw [if_pos (by unfold canPrint at hc; omega)] at hs
    rw [run, hs]
    conv => rhs; rw [e]
    rfl
  · have hw : wL a = [a.code] := by rw [e]; rfl
    rw [hw]
    have hk : cls a.code = 2 ∨ cls a.code = 3 := by
      rcases cls_cases a.code with h5 | h5 | h5 | h5 | h5 | h5 | h5 | h5 | h5 | h5 | h5 | h5 | h5 | h5 | h5 <;> omega
    have h67 : what 0 (cls a.code) = 67 := by rcases hk with h5 | h5 <;> rw [h5] <;> decide
    have hst : step p0 a.code = (p0, [⟨2, a.code, 0, [], [], []⟩]) := step_of (w := 67) (by omega) (by omega) h67 (by decide)
    rw [run, hst]
    conv => rhs; rw [e]
    rfl
  · have hw : wL a = 27 :: (asInts a.inter ++ [a.code]) := by rw [e]; rfl
    have hf := cls_from ⟨h0, h1⟩
    rw [hw, run_step (q := at' 1) rfl]
    refine (run_inter (st := 1) (m := 0) (args := []) (text := []) hi (.inl rfl) [a.code]).trans ?_
    rw [if_pos rfl]
    by_cases hn : a.inter = []
    · rw [if_pos hn]
      have hp := plain_letter (hs hn)
      rw [final_step h0 h1 (t_f1 _ (by omega) ⟨hf.1, hp.1, hp.2.1, hp.2.2⟩)]
      have e2 : final ⟨1, 0, a.inter, [], []⟩ a.code = a := by
        unfold final
        rw [if_neg (by rw [hn]; decide), if_pos (by show 1 < 3; decide)]
        exact e.symm
      rw [e2]
    · rw [if_neg hn, final_step h0 h1 (t_f2 _ (by omega) hf.1)]
      have e2 : final ⟨2, 0, a.inter, [], []⟩ a.code = a := by
        unfold final
        rw [if_neg (by show ¬ a.inter.length = 3; have := hi.1; omega), if_pos (by show 2 < 3; decide)]
        exact e.symm
      rw [e2]
  · have hw : wL a = 27 :: 91 :: ((if a.mark = 0 then [] else [a.mark]) ++ (asInts (Z.text a.args) ++ (asInts a.inter ++ [a.code]))) := by rw [e]; rfl
    have hr := Z.read_text a.args hk h32
    have hok : Z.okS (Z.text a.args) = true := by
      cases hx : Z.okS (Z.text a.args) with
      | true => rfl
      | false =>
        unfold Z.readT at hr
        rw [hx, if_neg (by decide)] at hr
        have := congrArg Prod.snd hr
        exact absurd this (by show ¬ (4 : Int) = 0; decide)
    have hu := cls_up ⟨h0, h1⟩
    rw [hw, run_step (q := at' 1) rfl, run_step (q := at' 3) rfl]
    have rest : ∀ st, (st = 3 ∨ st = 4) → run ⟨st, a.mark, [], [], []⟩ (asInts (Z.text a.args) ++ (asInts a.inter ++ [a.code])) = (p0, [a]) := fun st hst => by
      rw [run_sign (Z.text a.args) [] st hst hok (by simpa using h100), List.nil_append]
      have hst2 : (if Z.text a.args = [] then st else 4) = 3 ∨ (if Z.text a.args = [] then st else 4) = 4 := by split; exact hst; exact .inr rfl
      generalize (if Z.text a.args = [] then st else 4) = q at *
      rw [run_inter (st := q) hi (.inr hst2), if_neg (show ¬ q = 1 by omega)]
      have hq : (if a.inter = [] then q else 5) = 3 ∨ (if a.inter = [] then q else 5) = 4 ∨ (if a.inter = [] then q else 5) = 5 := by
        split
        · rcases hst2 with h | h
          · exact .inl h
          · exact .inr (.inl h)
        · exact .inr (.inr rfl)
      generalize (if a.inter = [] then q else 5) = q2 at *
      have ht := t_f3 (cls a.code) (by omega) hu.1
      rw [final_step (by omega) h1 (by
        show what q2 (cls a.code) = 70
        rcases hq with rfl | rfl | rfl
        · exact ht.1
        · exact ht.2.1
        · exact ht.2.2)]
      have e2 : final ⟨q2, a.mark, a.inter, Z.text a.args, []⟩ a.code = a := by
        unfold final
        rw [if_neg (by show ¬ a.inter.length = 3; have := hi.1; omega), if_neg (by show ¬ q2 < 3; omega)]
        show (⟨4, a.code, a.mark, a.inter, (Z.readT (Z.text a.args)).1, []⟩ : Ac) = a
        rw [hr]
        exact e.symm
      rw [e2]
    by_cases h60 : a.mark = 0
    · rw [if_pos h60]
      have := rest 3 (.inl rfl)
      rw [h60] at this
      exact this
    · rw [if_neg h60]
      have hm2 : 60 ≤ a.mark ∧ a.mark ≤ 63 := hm.elim (fun h => absurd h h60) id
      have hst : step (at' 3) a.mark = (⟨4, a.mark, [], [], []⟩, []) := by
        have hw : what 3 (cls a.mark) = 77 := by rw [cls_mark hm2]; decide
        exact step_of (p := at' 3) (w := 77) (by omega) (by omega) hw (by decide)
      exact (run_step hst).trans (rest 4 (.inr rfl))
  · have hw : wL a = 27 :: 93 :: (runesOf a.text ++ [7]) := by rw [e]; rfl
    rw [hw, run_step (q := at' 1) rfl, run_step (q := at' 7) rfl]
    refine (run_text (runesOf a.text) [] hc (by rw [he]; simpa using hl) [7]).trans ?_
    rw [List.nil_append, he]
    have hst : step ⟨7, 0, [], [], a.text⟩ 7 = (p0, [⟨5, 0, 0, [], [], a.text⟩]) := rfl
    rw [run, hst]
    conv => rhs; rw [e]
    rfl
end Go.Proofs.YtneiiinheimglaaGreatDoor.B
namespace Go.Proofs.YtneiiinheimglaaGreatDoor.B
open Go.Lib Go.Proofs.YtneiiinheimglaaGreatDoor

theorem head_of {x : Ac} {l : List Ac} {a : Ac} (h : x :: l = [a]) : x = a := by injection h
theorem t_osc : what 7 0 = 68 ∧ what 7 1 = 90 ∧ what 7 2 = 89 ∧ what 7 3 = 46 ∧ what 7 13 = 46 := by decide
theorem t_osc2 : ∀ k, k < 15 → 4 ≤ k ∧ k ≠ 13 → what 7 k = 87 := by decide +kernel
theorem t_end : what 8 10 = 89 ∧ ∀ k, k < 15 → k ≠ 10 → what 8 k = 82 := by decide +kernel
theorem osc8 {a : Ac} (ha : a.kind = 5) : ∀ (r : List Int) (acc : List UInt8), (run ⟨8, 0, [], [], acc⟩ r).2 = [a] → a.text = acc
  | [], _, h => by cases h
  | d :: r, acc, h => by
    by_cases h1 : d < 0 ∨ 1114111 < d
    · have hs : step ⟨8, 0, [], [], acc⟩ d = (⟨8, 0, [], [], acc⟩, []) := by unfold step; rw [if_pos h1]
      rw [run_step hs] at h
      exact osc8 ha r acc h
    · by_cases hk : cls d = 10
      · have hs : step ⟨8, 0, [], [], acc⟩ d = (p0, [⟨5, 0, 0, [], [], acc⟩]) := by
          rw [step_of (w := 89) (by omega) (by omega) (by show what 8 (cls d) = 89; rw [hk]; exact t_end.1) (by decide)]
          rfl
        rw [run, hs] at h
        rw [← head_of h]
      · have hs : (step ⟨8, 0, [], [], acc⟩ d).2 = gone :: (does (at' 1) d (what 1 (cls d))).2 := by
          unfold step
          rw [if_neg h1, if_pos (t_end.2 _ (cls_lt d) hk)]
        rw [run, hs] at h
        have e := head_of h
        rw [← e] at ha
        exact absurd ha (by decide)
/-- of a text that ends with 7 just one act comes only if that act's text is those runes' that may be put -/
theorem osc {a : Ac} (ha : a.kind = 5) : ∀ (t : List Int) (acc : List UInt8), (run ⟨7, 0, [], [], acc⟩ (t ++ [7])).2 = [a] →
    ∃ t', a.text = acc ++ U.encAll t' ∧ t'.length ≤ t.length ∧ (t'.length = t.length → t' = t ∧ ∀ c ∈ t, canPrint c)
  | [], acc, h => by
    have hs : step ⟨7, 0, [], [], acc⟩ 7 = (p0, [⟨5, 0, 0, [], [], acc⟩]) := rfl
    rw [List.nil_append, run, hs] at h
    refine ⟨[], ?_, Nat.le_refl _, fun _ => ⟨rfl, fun c hc => by cases hc⟩⟩
    rw [← head_of h]
    exact (List.append_nil _).symm
  | c :: t, acc, h => by
    have pass : step ⟨7, 0, [], [], acc⟩ c = (⟨7, 0, [], [], acc⟩, []) → ∃ t', a.text = acc ++ U.encAll t' ∧ t'.length ≤ (c :: t).length ∧ (t'.length = (c :: t).length → t' = c :: t ∧ ∀ x ∈ c :: t, canPrint x) := fun hs => by
      rw [List.cons_append, run_step hs] at h
      obtain ⟨t', h1, h2, _⟩ := osc ha t acc h
      exact ⟨t', h1, by rw [List.length_cons]; omega, fun e => by rw [List.length_cons] at e; omega⟩
    have stop : a.text = acc → ∃ t', a.text = acc ++ U.encAll t' ∧ t'.length ≤ (c :: t).length ∧ (t'.length = (c :: t).length → t' = c :: t ∧ ∀ x ∈ c :: t, canPrint x) := fun e =>
      ⟨[], by rw [e]; exact (List.append_nil _).symm, Nat.zero_le _, fun e => by cases e⟩
    by_cases h1 : c < 0 ∨ 1114111 < c
    · exact pass (by unfold step; rw [if_pos h1])
    have hk := cls_lt c
    have hw : ∀ w, what 7 (cls c) = w → w ≠ 82 → step ⟨7, 0, [], [], acc⟩ c = does ⟨7, 0, [], [], acc⟩ c w := fun w h2 h3 => step_of (by omega) (by omega) h2 h3
    by_cases h4 : 4 ≤ cls c ∧ cls c ≠ 13
    · have hs := hw 87 (t_osc2 _ hk h4) (by decide)
      by_cases h5 : acc.length + (encodeRune c).length ≤ 256
      · have hs2 : step ⟨7, 0, [], [], acc⟩ c = (⟨7, 0, [], [], acc ++ encodeRune c⟩, []) := by
          rw [hs]
          show ((if acc.length + (encodeRune c).length ≤ 256 then (⟨7, 0, [], [], acc ++ encodeRune c⟩ : Ps) else ⟨7, 0, [], [], acc⟩), ([] : List Ac)) = _
          rw [if_pos h5]
        rw [List.cons_append, run_step hs2] at h
        obtain ⟨t', h6, h7, h8⟩ := osc ha t _ h
        refine ⟨c :: t', by rw [h6, encAll_cons, List.append_assoc], by rw [List.length_cons, List.length_cons]; omega, fun e => ?_⟩
        rw [List.length_cons, List.length_cons] at e
        obtain ⟨h9, h10⟩ := h8 (by omega)
        refine ⟨by rw [h9], fun x hx => ?_⟩
        rcases List.mem_cons.1 hx with h11 | h11
        · rw [h11]; exact print_cls h4
        · exact h10 x h11
      · refine pass ?_
        rw [hs]
        show ((if acc.length + (encodeRune c).length ≤ 256 then (⟨7, 0, [], [], acc ++ encodeRune c⟩ : Ps) else ⟨7, 0, [], [], acc⟩), ([] : List Ac)) = _
        rw [if_neg h5]
    · rcases (by omega : cls c = 0 ∨ cls c = 1 ∨ cls c = 2 ∨ cls c = 3 ∨ cls c = 13) with h5 | h5 | h5 | h5 | h5
      · have hs := hw 68 (by rw [h5]; exact t_osc.1) (by decide)
        rw [List.cons_append, run, hs] at h
        have e := head_of h
        rw [← e] at ha
        exact absurd ha (by decide)
      · have hs : step ⟨7, 0, [], [], acc⟩ c = (⟨8, 0, [], [], acc⟩, []) := hw 90 (by rw [h5]; exact t_osc.2.1) (by decide)
        rw [List.cons_append, run_step hs] at h
        exact stop (osc8 ha _ _ h)
      · have hs := hw 89 (by rw [h5]; exact t_osc.2.2.1) (by decide)
        rw [List.cons_append, run, hs] at h
        have e := head_of h
        exact stop (by rw [← e]; rfl)
      · exact pass (hw 46 (by rw [h5]; exact t_osc.2.2.2.1) (by decide))
      · exact pass (hw 46 (by rw [h5]; exact t_osc.2.2.2.2) (by decide))

/-- what makes just that act may be written -/
theorem forth {a : Ac} (hk : 1 ≤ a.kind ∧ a.kind ≤ 5) (h4 : a.kind = 4 → Z.okL a.args = true ∧ a.args.length ≤ 32 ∧ (Z.text a.args).length ≤ 100) (h : run p0 (wL a) = (p0, [a])) (hr : ∀ c ∈ wL a, isR c) : wOk a := by
  have hs : shape a := run_shape (wL a) right_p0 a (by rw [h]; simp)
  rcases hs with e | ⟨e, h1⟩ | ⟨e, h1⟩ | ⟨e, h1⟩ | ⟨e, h0, h1, h2, h3, _⟩ | ⟨e, h1⟩
  · rw [e] at hk; exact absurd hk (by decide)
  · refine .inl ⟨e, h1, hr _ ?_⟩
    have hw : wL a = [a.code] := by rw [e]; rfl
    rw [hw]; simp
  · exact .inr (.inl ⟨e, h1⟩)
  · exact .inr (.inr (.inl ⟨e, h1⟩))
  · have hk4 : a.kind = 4 := by rw [e]
    obtain ⟨h5, h6, h7⟩ := h4 hk4
    exact .inr (.inr (.inr (.inl ⟨e, h0, h1, h2, h3, h5, h6, h7⟩)))
  · have hk5 : a.kind = 5 := by rw [e]
    have hw : wL a = 27 :: 93 :: (runesOf a.text ++ [7]) := by rw [e]; rfl
    rw [hw, run_step (q := at' 1) rfl, run_step (q := at' 7) rfl] at h
    obtain ⟨t', h2, h3, h5⟩ := osc hk5 (runesOf a.text) [] (congrArg Prod.snd h)
    rw [List.nil_append] at h2
    have hl : t'.length = (runesOf a.text).length := by
      unfold runesOf
      rw [h2, U.rd_encAll, List.length_map, List.length_map]
    obtain ⟨h6, h7⟩ := h5 hl
    exact .inr (.inr (.inr (.inr ⟨e, h1, by rw [← h6]; exact h2.symm, h7⟩)))

/-- acts, one behind the other -/
theorem back_all : ∀ l : List Ac, (∀ a ∈ l, wOk a) → run p0 (l.map wL).flatten = (p0, l)
  | [], _ => rfl
  | a :: l, h => by
    rw [List.map_cons, List.flatten_cons, run_app, back (h a (by simp)), back_all l (fun x hx => h x (by simp [hx]))]
    rfl
end Go.Proofs.YtneiiinheimglaaGreatDoor.B
