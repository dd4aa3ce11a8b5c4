/-
  Contracts of farref.Between and farref.ParserRight; condition: texts of at most 1048576 bytes.
  Contracts of farref.stepTable and farref.class; no condition.
-/
import Derived.Test.YtneiiinheimglaaGreatDoorJ13
import Derived.Lib.ConvBytes
import Derived.Deep.DeepCutAuto
namespace Go.Proofs.YtneiiinheimglaaGreatDoor.B
open Go.RowKit Go.Lib Go.Proofs.YtneiiinheimglaaGreatDoor Go.Proofs.YtneiiinheimglaaGreatDoor.W Go.Proofs.YtneiiinheimglaaGreatDoor.Q Go.Proofs.YtneiiinheimglaaGreatDoor.C Go.Proofs.YtneiiinheimglaaGreatDoor.Z

def btw (x a b : Int) : Bool := decide (a ≤ x ∧ x ≤ b)
set_option maxHeartbeats 1000000 in
theorem Between_any (x a b : Int) (w : World) : Calls Tryz.prog 25 #[.int .i64 x, .int .i64 a, .int .i64 b] w fun e w' => e = .returned (.bool (btw x a b)) ∧ w' = w := by
  unfold btw
  by_cases h1 : a ≤ x
  · by_cases h2 : x ≤ b
    · rw [decide_eq_true ⟨h1, h2⟩]
      go_enter Tryz.func25, Tryz.ntmps25
      go_wp2
      go_ret
      exact ⟨rfl, rfl⟩
    · rw [decide_eq_false (fun h => h2 h.2)]
      go_enter Tryz.func25, Tryz.ntmps25
      go_wp2
      go_ret
      exact ⟨rfl, rfl⟩
  · rw [decide_eq_false (fun h => h1 h.1)]
    go_enter Tryz.func25, Tryz.ntmps25
    go_wp2
    go_ret
    exact ⟨rfl, rfl⟩

theorem below_bytes (w : World) (e : TypeId) (s : ByteArray) : Below w.heap.size w (bytesWorld w e s) :=
  ⟨rfl, rfl, rfl, by rw [bytesWorld_size]; omega, fun k hk => bytesWorld_at_old w e s k hk⟩
theorem bytes_cell (w : World) (e : TypeId) (l : List UInt8) (k : Nat) (h : k < l.length) : (bytesWorld w e (bs l)).cell? ⟨w.heap.size, k, none⟩ = some (.int .u8 (l[k].toNat : Int)) := by
  rw [bytesWorld_cell w e (bs l) k (by rw [bs_size]; exact h)]
  show some (Value.int .u8 ((l.getD k 0).toNat : Int)) = _
  simp [h]
def f1 (st mk : Int) : Bool := decide (0 ≤ st ∧ st ≤ 10 ∧ (mk = 0 ∨ 60 ≤ mk ∧ mk ≤ 63 ∧ 4 ≤ st ∧ st ≤ 5))
def f2 (st : Int) (im : List UInt8) : Bool := decide (im.length ≤ 3 ∧ (0 < im.length ↔ st = 2 ∨ st = 5))
def f3 (st : Int) (ar : List UInt8) : Bool := decide (ar.length ≤ 100 ∧ (ar.length = 0 ∨ 4 ≤ st ∧ st ≤ 5))
def f4 (st : Int) (tx : List UInt8) : Bool := decide (tx.length ≤ 256 ∧ (tx.length = 0 ∨ 7 ≤ st ∧ st ≤ 8))
def midB (b : UInt8) : Bool := decide (32 ≤ (b.toNat : Int) ∧ (b.toNat : Int) ≤ 47)
def sgnB (b : UInt8) : Bool := decide ((b.toNat : Int) = 59 ∨ 48 ≤ (b.toNat : Int) ∧ (b.toNat : Int) ≤ 57)
theorem sgn_ok (b : UInt8) : sgnB b = okB b := by
  unfold sgnB okB
  by_cases h : b = 59
  · subst h; decide
  · have h1 : ¬ (b.toNat : Int) = 59 := fun e => h (UInt8.toNat_inj.1 (by show b.toNat = 59; omega))
    rw [beq_false_of_ne h, Bool.or_false]
    by_cases hd : dig b = true
    · rw [hd]
      obtain ⟨d1, d2⟩ := dig_iff.1 hd
      exact decide_eq_true (.inr (by omega))
    · rw [Bool.eq_false_iff.2 hd]
      exact decide_eq_false (fun e => e.elim h1 (fun e => hd (dig_iff.2 (by omega))))
theorem f_inter (st : Int) (im : List UInt8) : (f2 st im && im.all midB) = okInter st im := by
  unfold f2 okInter areMid
  have e : (im.all fun b => decide (32 ≤ (b.toNat : Int) ∧ (b.toNat : Int) ≤ 47)) = im.all midB := rfl
  rw [e]
  by_cases h : st = 2 ∨ st = 5
  · rw [if_pos h]
    cases im with
    | nil => rw [decide_eq_false (fun hh => by have := hh.2.2 h; simp at this)]; rfl
    | cons x r =>
      have e1 : decide ((x :: r).length ≤ 3 ∧ (0 < (x :: r).length ↔ st = 2 ∨ st = 5)) = decide (((x :: r).length : Int) ≤ 3) := by
        rw [decide_eq_decide]
        exact ⟨fun hh => by omega, fun hh => ⟨by omega, ⟨fun _ => h, fun _ => Nat.succ_pos _⟩⟩⟩
      rw [e1]
      simp
  · rw [if_neg h]
    cases im with
    | nil => rw [decide_eq_true ⟨Nat.zero_le _, ⟨fun hh => absurd hh (by simp), fun hh => absurd hh h⟩⟩]; rfl
    | cons x r =>
      rw [decide_eq_false (fun hh => h (hh.2.1 (Nat.succ_pos _)))]
      rfl
theorem f_args (st : Int) (ar : List UInt8) : (f3 st ar && ar.all sgnB) = okArgs st ar := by
  have e : ar.all sgnB = okS ar := by
    unfold okS
    congr 1
    funext b
    exact sgn_ok b
  unfold f3 okArgs
  rw [e]
  by_cases h : st = 4 ∨ st = 5
  · rw [if_pos h, Bool.and_comm]
    congr 1
    rw [decide_eq_decide]
    exact ⟨fun hh => hh.1, fun hh => ⟨hh, .inr (by omega)⟩⟩
  · rw [if_neg h]
    cases ar with
    | nil => rw [decide_eq_true ⟨Nat.zero_le _, .inl rfl⟩]; rfl
    | cons x r =>
      rw [decide_eq_false (fun hh => hh.2.elim (fun h2 => by simp at h2) (fun h2 => h (by omega)))]
      rfl
theorem f_text (st : Int) (tx : List UInt8) : f4 st tx = okText st tx := by
  unfold f4 okText
  by_cases h : st = 7 ∨ st = 8
  · rw [if_pos h, decide_eq_decide]
    exact ⟨fun hh => hh.1, fun hh => ⟨hh, .inr (by omega)⟩⟩
  · rw [if_neg h]
    cases tx with
    | nil => exact decide_eq_true ⟨Nat.zero_le _, .inl rfl⟩
    | cons x r => exact decide_eq_false (fun hh => hh.2.elim (fun h2 => by simp at h2) (fun h2 => h (by omega)))
theorem f_mark (st mk : Int) : f1 st mk = (decide (0 ≤ st ∧ st ≤ 10) && okMark st mk) := by
  unfold f1 okMark
  by_cases h : 0 ≤ st ∧ st ≤ 10
  · rw [decide_eq_true h, Bool.true_and]
    by_cases h0 : mk = 0
    · rw [decide_eq_true h0, Bool.true_or]
      exact decide_eq_true ⟨h.1, h.2, .inl h0⟩
    · rw [decide_eq_false h0, Bool.false_or]
      by_cases h4 : st = 4 ∨ st = 5
      · rw [decide_eq_true h4, Bool.true_and, ← Bool.decide_and, decide_eq_decide]
        exact ⟨fun hh => by omega, fun hh => by omega⟩
      · rw [decide_eq_false h4, Bool.false_and]
        exact decide_eq_false (fun hh => by omega)
  · rw [decide_eq_false h, Bool.false_and]
    exact decide_eq_false (fun hh => h ⟨hh.1, hh.2.1⟩)
theorem f_ok (st mk : Int) (im ar tx : List UInt8) : (f1 st mk && f2 st im && f3 st ar && f4 st tx && im.all midB && ar.all sgnB) = okP st mk im ar tx := by
  unfold okP
  rw [← f_mark, ← f_inter, ← f_args, ← f_text]
  cases f1 st mk <;> cases f2 st im <;> cases f3 st ar <;> cases f4 st tx <;> cases im.all midB <;> cases ar.all sgnB <;> rfl
theorem all_step {f : UInt8 → Bool} {l : List UInt8} {k : Nat} (h : k < l.length) : (l.drop k).all f = (f l[k] && (l.drop (k + 1)).all f) := by
  rw [List.drop_eq_getElem_cons h, List.all_cons]

end Go.Proofs.YtneiiinheimglaaGreatDoor.B
namespace Go.Proofs.YtneiiinheimglaaGreatDoor.B
open Go.RowKit Go.Lib Go.Proofs.YtneiiinheimglaaGreatDoor Go.Proofs.YtneiiinheimglaaGreatDoor.W Go.Proofs.YtneiiinheimglaaGreatDoor.Q Go.Proofs.YtneiiinheimglaaGreatDoor.C Go.Proofs.YtneiiinheimglaaGreatDoor.Z

def clsL (k : Nat) : Nat := [120, 101, 98, 99, 105, 107, 100, 109, 91, 93, 92, 112, 102, 110, 117].getD k 0
def rowB (st : Nat) : List UInt8 := (row st).map fun k => k.toUInt8
set_option maxHeartbeats 4000000 in
theorem stepTable_any (st : Nat) (h : st ≤ 10) (w : World) : Calls Tryz.prog 47 #[.int .i64 (st : Int)] w fun e w' => e = .returned (.string (bs (rowB st))) ∧ w' = w := by
  have hc : st = 0 ∨ st = 1 ∨ st = 2 ∨ st = 3 ∨ st = 4 ∨ st = 5 ∨ st = 6 ∨ st = 7 ∨ st = 8 ∨ st = 9 ∨ st = 10 := by omega
  rcases hc with rfl | rfl | rfl | rfl | rfl | rfl | rfl | rfl | rfl | rfl | rfl
  · go_enter Tryz.func47, Tryz.ntmps47
    go_wp2
    go_ret
    exact ⟨rfl, rfl⟩
  · go_enter Tryz.func47, Tryz.ntmps47
    go_wp2
    go_ret
    exact ⟨rfl, rfl⟩
  · go_enter Tryz.func47, Tryz.ntmps47
    go_wp2
    go_ret
    exact ⟨rfl, rfl⟩
  · go_enter Tryz.func47, Tryz.ntmps47
    go_wp2
    go_ret
    exact ⟨rfl, rfl⟩
  · go_enter Tryz.func47, Tryz.ntmps47
    go_wp2
    go_ret
    exact ⟨rfl, rfl⟩
  · go_enter Tryz.func47, Tryz.ntmps47
    go_wp2
    go_ret
    exact ⟨rfl, rfl⟩
  · go_enter Tryz.func47, Tryz.ntmps47
    go_wp2
    go_ret
    exact ⟨rfl, rfl⟩
  · go_enter Tryz.func47, Tryz.ntmps47
    go_wp2
    go_ret
    exact ⟨rfl, rfl⟩
  · go_enter Tryz.func47, Tryz.ntmps47
    go_wp2
    go_ret
    exact ⟨rfl, rfl⟩
  · go_enter Tryz.func47, Tryz.ntmps47
    go_wp2
    go_ret
    exact ⟨rfl, rfl⟩
  · go_enter Tryz.func47, Tryz.ntmps47
    go_wp2
    go_ret
    exact ⟨rfl, rfl⟩

set_option maxHeartbeats 8000000 in
set_option maxRecDepth 100000 in
theorem class_any (c : Int) (w : World) : Calls Tryz.prog 49 #[.int .i64 c] w fun e w' => e = .returned (.int .u8 (clsL (cls c) : Int)) ∧ w' = w := by
  by_cases h0 : c = 24 ∨ c = 26
  · rcases h0 with rfl | rfl
    · rw [show cls 24 = 0 from rfl]
      go_enter Tryz.func49, Tryz.ntmps49
      go_wp2
      go_ret
      exact ⟨rfl, rfl⟩
    · rw [show cls 26 = 0 from rfl]
      go_enter Tryz.func49, Tryz.ntmps49
      go_wp2
      go_ret
      exact ⟨rfl, rfl⟩
  have g24 : (c == 24) = false := beq_false_of_ne (fun e => h0 (.inl e))
  have g26 : (c == 26) = false := beq_false_of_ne (fun e => h0 (.inr (e)))
  by_cases h1 : c = 27
  · subst h1
    rw [show cls 27 = 1 from rfl]
    go_enter Tryz.func49, Tryz.ntmps49
    go_wp2
    go_ret
    exact ⟨rfl, rfl⟩
  have g27 : (c == 27) = false := beq_false_of_ne h1
  by_cases h2 : c = 7
  · subst h2
    rw [show cls 7 = 2 from rfl]
    go_enter Tryz.func49, Tryz.ntmps49
    go_wp2
    go_ret
    exact ⟨rfl, rfl⟩
  have g7 : (c == 7) = false := beq_false_of_ne h2
  have H3 := Hid.mk' (Between_any c 0 31 w)
  by_cases h3 : 0 ≤ c ∧ c ≤ 31
  · rw [show btw c 0 31 = true from decide_eq_true h3] at H3
    rw [show cls c = 3 by unfold cls; rw [if_neg h0, if_neg h1, if_neg h2, if_pos h3]]
    go_enter Tryz.func49, Tryz.ntmps49
    go_wp2_with fail
    refine H3.out.mono ?_
    rintro e w2 ⟨rfl, rfl⟩
    go_wp2
    go_ret
    exact ⟨rfl, rfl⟩
  rw [show btw c 0 31 = false from decide_eq_false h3] at H3
  have H4 := Hid.mk' (Between_any c 32 47 w)
  by_cases h4 : 32 ≤ c ∧ c ≤ 47
  · rw [show btw c 32 47 = true from decide_eq_true h4] at H4
    rw [show cls c = 4 by unfold cls; rw [if_neg h0, if_neg h1, if_neg h2, if_neg h3, if_pos h4]]
    go_enter Tryz.func49, Tryz.ntmps49
    go_wp2_with fail
    refine H3.out.mono ?_
    rintro e w2 ⟨rfl, rfl⟩
    go_wp2_with fail
    refine H4.out.mono ?_
    rintro e w2 ⟨rfl, rfl⟩
    go_wp2
    go_ret
    exact ⟨rfl, rfl⟩
  rw [show btw c 32 47 = false from decide_eq_false h4] at H4
  by_cases h5 : c = 58
  · subst h5
    rw [show cls 58 = 5 from rfl]
    go_enter Tryz.func49, Tryz.ntmps49
    go_wp2_with fail
    refine H3.out.mono ?_
    rintro e w2 ⟨rfl, rfl⟩
    go_wp2_with fail
    refine H4.out.mono ?_
    rintro e w2 ⟨rfl, rfl⟩
    go_wp2
    go_ret
    exact ⟨rfl, rfl⟩
  have g58 : (c == 58) = false := beq_false_of_ne h5
  have H6 := Hid.mk' (Between_any c 48 59 w)
  by_cases h6 : 48 ≤ c ∧ c ≤ 59
  · rw [show btw c 48 59 = true from decide_eq_true h6] at H6
    rw [show cls c = 6 by unfold cls; rw [if_neg h0, if_neg h1, if_neg h2, if_neg h3, if_neg h4, if_neg h5, if_pos h6]]
    go_enter Tryz.func49, Tryz.ntmps49
    go_wp2_with fail
    refine H3.out.mono ?_
    rintro e w2 ⟨rfl, rfl⟩
    go_wp2_with fail
    refine H4.out.mono ?_
    rintro e w2 ⟨rfl, rfl⟩
    go_wp2_with fail
    refine H6.out.mono ?_
    rintro e w2 ⟨rfl, rfl⟩
    go_wp2
    go_ret
    exact ⟨rfl, rfl⟩
  rw [show btw c 48 59 = false from decide_eq_false h6] at H6
  have H7 := Hid.mk' (Between_any c 60 63 w)
  by_cases h7 : 60 ≤ c ∧ c ≤ 63
  · rw [show btw c 60 63 = true from decide_eq_true h7] at H7
    rw [show cls c = 7 by unfold cls; rw [if_neg h0, if_neg h1, if_neg h2, if_neg h3, if_neg h4, if_neg h5, if_neg h6, if_pos h7]]
    go_enter Tryz.func49, Tryz.ntmps49
    go_wp2_with fail
    refine H3.out.mono ?_
    rintro e w2 ⟨rfl, rfl⟩
    go_wp2_with fail
    refine H4.out.mono ?_
    rintro e w2 ⟨rfl, rfl⟩
    go_wp2_with fail
    refine H6.out.mono ?_
    rintro e w2 ⟨rfl, rfl⟩
    go_wp2_with fail
    refine H7.out.mono ?_
    rintro e w2 ⟨rfl, rfl⟩
    go_wp2
    go_ret
    exact ⟨rfl, rfl⟩
  rw [show btw c 60 63 = false from decide_eq_false h7] at H7
  by_cases h8a : c = 91
  · subst h8a
    rw [show cls 91 = 8 from rfl]
    go_enter Tryz.func49, Tryz.ntmps49
    go_wp2_with fail
    refine H3.out.mono ?_
    rintro e w2 ⟨rfl, rfl⟩
    go_wp2_with fail
    refine H4.out.mono ?_
    rintro e w2 ⟨rfl, rfl⟩
    go_wp2_with fail
    refine H6.out.mono ?_
    rintro e w2 ⟨rfl, rfl⟩
    go_wp2_with fail
    refine H7.out.mono ?_
    rintro e w2 ⟨rfl, rfl⟩
    go_wp2
    go_ret
    exact ⟨rfl, rfl⟩
  have g91 : (c == 91) = false := beq_false_of_ne h8a
  by_cases h8b : c = 93
  · subst h8b
    rw [show cls 93 = 9 from rfl]
    go_enter Tryz.func49, Tryz.ntmps49
    go_wp2_with fail
    refine H3.out.mono ?_
    rintro e w2 ⟨rfl, rfl⟩
    go_wp2_with fail
    refine H4.out.mono ?_
    rintro e w2 ⟨rfl, rfl⟩
    go_wp2_with fail
    refine H6.out.mono ?_
    rintro e w2 ⟨rfl, rfl⟩
    go_wp2_with fail
    refine H7.out.mono ?_
    rintro e w2 ⟨rfl, rfl⟩
    go_wp2
    go_ret
    exact ⟨rfl, rfl⟩
  have g93 : (c == 93) = false := beq_false_of_ne h8b
  by_cases h8c : c = 92
  · subst h8c
    rw [show cls 92 = 10 from rfl]
    go_enter Tryz.func49, Tryz.ntmps49
    go_wp2_with fail
    refine H3.out.mono ?_
    rintro e w2 ⟨rfl, rfl⟩
    go_wp2_with fail
    refine H4.out.mono ?_
    rintro e w2 ⟨rfl, rfl⟩
    go_wp2_with fail
    refine H6.out.mono ?_
    rintro e w2 ⟨rfl, rfl⟩
    go_wp2_with fail
    refine H7.out.mono ?_
    rintro e w2 ⟨rfl, rfl⟩
    go_wp2
    go_ret
    exact ⟨rfl, rfl⟩
  have g92 : (c == 92) = false := beq_false_of_ne h8c
  by_cases h9 : c = 80 ∨ c = 88 ∨ c = 94 ∨ c = 95
  · rcases h9 with rfl | rfl | rfl | rfl
    · rw [show cls 80 = 11 from rfl]
      go_enter Tryz.func49, Tryz.ntmps49
      go_wp2_with fail
      refine H3.out.mono ?_
      rintro e w2 ⟨rfl, rfl⟩
      go_wp2_with fail
      refine H4.out.mono ?_
      rintro e w2 ⟨rfl, rfl⟩
      go_wp2_with fail
      refine H6.out.mono ?_
      rintro e w2 ⟨rfl, rfl⟩
      go_wp2_with fail
      refine H7.out.mono ?_
      rintro e w2 ⟨rfl, rfl⟩
      go_wp2
      go_ret
      exact ⟨rfl, rfl⟩
    · rw [show cls 88 = 11 from rfl]
      go_enter Tryz.func49, Tryz.ntmps49
      go_wp2_with fail
      refine H3.out.mono ?_
      rintro e w2 ⟨rfl, rfl⟩
      go_wp2_with fail
      refine H4.out.mono ?_
      rintro e w2 ⟨rfl, rfl⟩
      go_wp2_with fail
      refine H6.out.mono ?_
      rintro e w2 ⟨rfl, rfl⟩
      go_wp2_with fail
      refine H7.out.mono ?_
      rintro e w2 ⟨rfl, rfl⟩
      go_wp2
      go_ret
      exact ⟨rfl, rfl⟩
    · rw [show cls 94 = 11 from rfl]
      go_enter Tryz.func49, Tryz.ntmps49
      go_wp2_with fail
      refine H3.out.mono ?_
      rintro e w2 ⟨rfl, rfl⟩
      go_wp2_with fail
      refine H4.out.mono ?_
      rintro e w2 ⟨rfl, rfl⟩
      go_wp2_with fail
      refine H6.out.mono ?_
      rintro e w2 ⟨rfl, rfl⟩
      go_wp2_with fail
      refine H7.out.mono ?_
      rintro e w2 ⟨rfl, rfl⟩
      go_wp2
      go_ret
      exact ⟨rfl, rfl⟩
    · rw [show cls 95 = 11 from rfl]
      go_enter Tryz.func49, Tryz.ntmps49
      go_wp2_with fail
      refine H3.out.mono ?_
      rintro e w2 ⟨rfl, rfl⟩
      go_wp2_with fail
      refine H4.out.mono ?_
      rintro e w2 ⟨rfl, rfl⟩
      go_wp2_with fail
      refine H6.out.mono ?_
      rintro e w2 ⟨rfl, rfl⟩
      go_wp2_with fail
      refine H7.out.mono ?_
      rintro e w2 ⟨rfl, rfl⟩
      go_wp2
      go_ret
      exact ⟨rfl, rfl⟩
  have g80 : (c == 80) = false := beq_false_of_ne (fun e => h9 (.inl e))
  have g88 : (c == 88) = false := beq_false_of_ne (fun e => h9 (.inr (.inl e)))
  have g94 : (c == 94) = false := beq_false_of_ne (fun e => h9 (.inr (.inr (.inl e))))
  have g95 : (c == 95) = false := beq_false_of_ne (fun e => h9 (.inr (.inr (.inr (e)))))
  have H10 := Hid.mk' (Between_any c 64 126 w)
  by_cases h10 : 64 ≤ c ∧ c ≤ 126
  · rw [show btw c 64 126 = true from decide_eq_true h10] at H10
    rw [show cls c = 12 by unfold cls; rw [if_neg h0, if_neg h1, if_neg h2, if_neg h3, if_neg h4, if_neg h5, if_neg h6, if_neg h7, if_neg h8a, if_neg h8b, if_neg h8c, if_neg h9, if_pos h10]]
    go_enter Tryz.func49, Tryz.ntmps49
    go_wp2_with fail
    refine H3.out.mono ?_
    rintro e w2 ⟨rfl, rfl⟩
    go_wp2_with fail
    refine H4.out.mono ?_
    rintro e w2 ⟨rfl, rfl⟩
    go_wp2_with fail
    refine H6.out.mono ?_
    rintro e w2 ⟨rfl, rfl⟩
    go_wp2_with fail
    refine H7.out.mono ?_
    rintro e w2 ⟨rfl, rfl⟩
    go_wp2_with fail
    refine H10.out.mono ?_
    rintro e w2 ⟨rfl, rfl⟩
    go_wp2
    go_ret
    exact ⟨rfl, rfl⟩
  rw [show btw c 64 126 = false from decide_eq_false h10] at H10
  have H11 := Hid.mk' (Between_any c 160 1114111 w)
  by_cases h11 : 160 ≤ c ∧ c ≤ 1114111
  · rw [show btw c 160 1114111 = true from decide_eq_true h11] at H11
    rw [show cls c = 14 by unfold cls; rw [if_neg h0, if_neg h1, if_neg h2, if_neg h3, if_neg h4, if_neg h5, if_neg h6, if_neg h7, if_neg h8a, if_neg h8b, if_neg h8c, if_neg h9, if_neg h10, if_pos h11]]
    go_enter Tryz.func49, Tryz.ntmps49
    go_wp2_with fail
    refine H3.out.mono ?_
    rintro e w2 ⟨rfl, rfl⟩
    go_wp2_with fail
    refine H4.out.mono ?_
    rintro e w2 ⟨rfl, rfl⟩
    go_wp2_with fail
    refine H6.out.mono ?_
    rintro e w2 ⟨rfl, rfl⟩
    go_wp2_with fail
    refine H7.out.mono ?_
    rintro e w2 ⟨rfl, rfl⟩
    go_wp2_with fail
    refine H10.out.mono ?_
    rintro e w2 ⟨rfl, rfl⟩
    go_wp2_with fail
    refine H11.out.mono ?_
    rintro e w2 ⟨rfl, rfl⟩
    go_wp2
    go_ret
    exact ⟨rfl, rfl⟩
  rw [show btw c 160 1114111 = false from decide_eq_false h11] at H11
  rw [show cls c = 13 by unfold cls; rw [if_neg h0, if_neg h1, if_neg h2, if_neg h3, if_neg h4, if_neg h5, if_neg h6, if_neg h7, if_neg h8a, if_neg h8b, if_neg h8c, if_neg h9, if_neg h10, if_neg h11]]
  go_enter Tryz.func49, Tryz.ntmps49
  go_wp2_with fail
  refine H3.out.mono ?_
  rintro e w2 ⟨rfl, rfl⟩
  go_wp2_with fail
  refine H4.out.mono ?_
  rintro e w2 ⟨rfl, rfl⟩
  go_wp2_with fail
  refine H6.out.mono ?_
  rintro e w2 ⟨rfl, rfl⟩
  go_wp2_with fail
  refine H7.out.mono ?_
  rintro e w2 ⟨rfl, rfl⟩
  go_wp2_with fail
  refine H10.out.mono ?_
  rintro e w2 ⟨rfl, rfl⟩
  go_wp2_with fail
  refine H11.out.mono ?_
  rintro e w2 ⟨rfl, rfl⟩
  go_wp2
  go_ret
  exact ⟨rfl, rfl⟩
end Go.Proofs.YtneiiinheimglaaGreatDoor.B
