/-
  Contracts of farref.Between and farref.ParserRight; condition: texts of at most 1048576 bytes.
-/
import Derived.Test.YtneiiinheimglaaDoorBFeed
import Derived.Lib.ConvBytes
import Derived.Deep.DeepCutAuto
namespace Go.Proofs.YtneiiinheimglaaDoor.B
open Go.RowKit Go.Lib Go.Proofs.YtneiiinheimglaaDoor Go.Proofs.YtneiiinheimglaaDoor.W Go.Proofs.YtneiiinheimglaaDoor.Q Go.Proofs.YtneiiinheimglaaDoor.C Go.Proofs.YtneiiinheimglaaDoor.Z

def btw (x a b : Int) : Bool := decide (a ≤ x ∧ x ≤ b)
set_option maxHeartbeats 1000000 in
theorem Between_any (x a b : Int) (w : World) : Calls Tryd.prog 13 #[.int .i64 x, .int .i64 a, .int .i64 b] w fun e w' => e = .returned (.bool (btw x a b)) ∧ w' = w := by
  unfold btw
  by_cases h1 : a ≤ x
  · by_cases h2 : x ≤ b
    · rw [decide_eq_true ⟨h1, h2⟩]
      go_enter Tryd.func13, Tryd.ntmps13
      go_wp2
      go_ret
      exact ⟨rfl, rfl⟩
    · rw [decide_eq_false (fun h => h2 h.2)]
      go_enter Tryd.func13, Tryd.ntmps13
      go_wp2
      go_ret
      exact ⟨rfl, rfl⟩
  · rw [decide_eq_false (fun h => h1 h.1)]
    go_enter Tryd.func13, Tryd.ntmps13
    go_wp2
    go_ret
    exact ⟨rfl, rfl⟩

theorem below_bytes (w : World) (e : TypeId) (s : ByteArray) : Below w.heap.size w (bytesWorld w e s) :=
  ⟨rfl, rfl, rfl, by rw [bytesWorld_size]; omega, fun k hk => bytesWorld_at_old w e s k hk⟩
theorem bytes_cell (w : World) (e : TypeId) (l : List UInt8) (k : Nat) (h : k < l.length) : (bytesWorld w e (bs l)).cell? ⟨w.heap.size, k, none⟩ = some (.int .u8 (l[k].toNat : Int)) := by
  rw [bytesWorld_cell w e (bs l) k (by rw [bs_size]; exact h)]
  show some (Value.int .u8 ((l.getD k 0).toNat : Int)) = _
  simp [h]
def f1 (st mk : Int) : Bool := decide (0 ≤ st ∧ st ≤ 10 ∧ (mk = 0 ∨ 60 ≤ mk ∧ mk ≤ 63 ∧ 4 ≤ st ∧ st ≤ 5))
def f2 (st : Int) (im : List UInt8) : Bool := decide (im.length ≤ 3 ∧ (0 < im.length ↔ st = 2 ∨ st = 5))
def f3 (st : Int) (ar : List UInt8) : Bool := decide (ar.length ≤ 100 ∧ (ar.length = 0 ∨ 4 ≤ st ∧ st ≤ 5))
def f4 (st : Int) (tx : List UInt8) : Bool := decide (tx.length ≤ 256 ∧ (tx.length = 0 ∨ 7 ≤ st ∧ st ≤ 8))
def midB (b : UInt8) : Bool := decide (32 ≤ (b.toNat : Int) ∧ (b.toNat : Int) ≤ 47)
def sgnB (b : UInt8) : Bool := decide ((b.toNat : Int) = 59 ∨ 48 ≤ (b.toNat : Int) ∧ (b.toNat : Int) ≤ 57)
theorem sgn_ok (b : UInt8) : sgnB b = okB b := by
  unfold sgnB okB
  by_cases h : b = 59
  · subst h; decide
  · have h1 : ¬ (b.toNat : Int) = 59 := fun e => h (UInt8.toNat_inj.1 (by show b.toNat = 59; omega))
    rw [beq_false_of_ne h, Bool.or_false]
    by_cases hd : dig b = true
    · rw [hd]
      obtain ⟨d1, d2⟩ := dig_iff.1 hd
      exact decide_eq_true (.inr (by omega))
    · rw [Bool.eq_false_iff.2 hd]
      exact decide_eq_false (fun e => e.elim h1 (fun e => hd (dig_iff.2 (by omega))))
theorem f_inter (st : Int) (im : List UInt8) : (f2 st im && im.all midB) = okInter st im := by
  unfold f2 okInter areMid
  have e : (im.all fun b => decide (32 ≤ (b.toNat : Int) ∧ (b.toNat : Int) ≤ 47)) = im.all midB := rfl
  rw [e]
  by_cases h : st = 2 ∨ st = 5
  · rw [if_pos h]
    cases im with
    | nil => rw [decide_eq_false (fun hh => by have := hh.2.2 h; simp at this)]; rfl
    | cons x r =>
      have e1 : decide ((x :: r).length ≤ 3 ∧ (0 < (x :: r).length ↔ st = 2 ∨ st = 5)) = decide (((x :: r).length : Int) ≤ 3) := by
        rw [decide_eq_decide]
        exact ⟨fun hh => by omega, fun hh => ⟨by omega, ⟨fun _ => h, fun _ => Nat.succ_pos _⟩⟩⟩
      rw [e1]
      simp
  · rw [if_neg h]
    cases im with
    | nil => rw [decide_eq_true ⟨Nat.zero_le _, ⟨fun hh => absurd hh (by simp), fun hh => absurd hh h⟩⟩]; rfl
    | cons x r =>
      rw [decide_eq_false (fun hh => h (hh.2.1 (Nat.succ_pos _)))]
      rfl
theorem f_args (st : Int) (ar : List UInt8) : (f3 st ar && ar.all sgnB) = okArgs st ar := by
  have e : ar.all sgnB = okS ar := by
    unfold okS
    congr 1
    funext b
    exact sgn_ok b
  unfold f3 okArgs
  rw [e]
  by_cases h : st = 4 ∨ st = 5
  · rw [if_pos h, Bool.and_comm]
    congr 1
    rw [decide_eq_decide]
    exact ⟨fun hh => hh.1, fun hh => ⟨hh, .inr (by omega)⟩⟩
  · rw [if_neg h]
    cases ar with
    | nil => rw [decide_eq_true ⟨Nat.zero_le _, .inl rfl⟩]; rfl
    | cons x r =>
      rw [decide_eq_false (fun hh => hh.2.elim (fun h2 => by simp at h2) (fun h2 => h (by omega)))]
      rfl
theorem f_text (st : Int) (tx : List UInt8) : f4 st tx = okText st tx := by
  unfold f4 okText
  by_cases h : st = 7 ∨ st = 8
  · rw [if_pos h, decide_eq_decide]
    exact ⟨fun hh => hh.1, fun hh => ⟨hh, .inr (by omega)⟩⟩
  · rw [if_neg h]
    cases tx with
    | nil => exact decide_eq_true ⟨Nat.zero_le _, .inl rfl⟩
    | cons x r => exact decide_eq_false (fun hh => hh.2.elim (fun h2 => by simp at h2) (fun h2 => h (by omega)))
theorem f_mark (st mk : Int) : f1 st mk = (decide (0 ≤ st ∧ st ≤ 10) && okMark st mk) := by
  unfold f1 okMark
  by_cases h : 0 ≤ st ∧ st ≤ 10
  · rw [decide_eq_true h, Bool.true_and]
    by_cases h0 : mk = 0
    · rw [decide_eq_true h0, Bool.true_or]
      exact decide_eq_true ⟨h.1, h.2, .inl h0⟩
    · rw [decide_eq_false h0, Bool.false_or]
      by_cases h4 : st = 4 ∨ st = 5
      · rw [decide_eq_true h4, Bool.true_and, ← Bool.decide_and, decide_eq_decide]
        exact ⟨fun hh => by omega, fun hh => by omega⟩
      · rw [decide_eq_false h4, Bool.false_and]
        exact decide_eq_false (fun hh => by omega)
  · rw [decide_eq_false h, Bool.false_and]
    exact decide_eq_false (fun hh => h ⟨hh.1, hh.2.1⟩)
theorem f_ok (st mk : Int) (im ar tx : List UInt8) : (f1 st mk && f2 st im && f3 st ar && f4 st tx && im.all midB && ar.all sgnB) = okP st mk im ar tx := by
  unfold okP
  rw [← f_mark, ← f_inter, ← f_args, ← f_text]
  cases f1 st mk <;> cases f2 st im <;> cases f3 st ar <;> cases f4 st tx <;> cases im.all midB <;> cases ar.all sgnB <;> rfl
theorem all_step {f : UInt8 → Bool} {l : List UInt8} {k : Nat} (h : k < l.length) : (l.drop k).all f = (f l[k] && (l.drop (k + 1)).all f) := by
  rw [List.drop_eq_getElem_cons h, List.all_cons]

set_option maxHeartbeats 16000000 in
set_option maxRecDepth 100000 in
theorem ParserRight_any (st mk : Int) (im ar tx : List UInt8) (w : World) (hl : im.length ≤ 1048576 ∧ ar.length ≤ 1048576 ∧ tx.length ≤ 1048576) : Calls Tryd.prog 6 #[.agg #[.int .i64 st, .int .i64 mk, .string (bs im), .string (bs ar), .string (bs tx)]] w fun e w' => e = .returned (.int .i64 (if okP st mk im ar tx = true then 0 else 4)) ∧ Below w.heap.size w w' := by
  obtain ⟨hl1, hl2, hl3⟩ := hl
  rw [← f_ok]
  have HBT := Hid.mk' (fun x a b W => Between_any x a b W)
  have e1 := isEmpty_bs im
  have e2 := isEmpty_bs ar
  have e3 := isEmpty_bs tx
  have z1 := C.bs_size im
  have z2 := C.bs_size ar
  have z3 := C.bs_size tx
  have HCV1 := Hid.mk' (fun W => Lib.run_convert_string_bytes (P := Tryd.prog) W 9 44 5 (bs im) Tryd.underlying9 Tryd.underlying44 Tryd.underlying5)
  have HCV2 := Hid.mk' (fun W => Lib.run_convert_string_bytes (P := Tryd.prog) W 9 44 5 (bs ar) Tryd.underlying9 Tryd.underlying44 Tryd.underlying5)
  rw [z1] at HCV1
  rw [z2] at HCV2
  have HG1 := Hid.mk' (fun W => grownCap_ge W im.length 0 5)
  have HG2 := Hid.mk' (fun W => grownCap_ge W ar.length 0 5)
  have HBB1 := Hid.mk' (fun W => below_bytes W 5 (bs im))
  have HBB2 := Hid.mk' (fun W => below_bytes W 5 (bs ar))
  have HC1 := Hid.mk' (fun W k h => bytes_cell W 5 im k h)
  have HC2 := Hid.mk' (fun W k h => bytes_cell W 5 ar k h)
  have HZ1 : Hid (∀ W, W.heap.size + 1 = (bytesWorld W 5 (bs im)).heap.size) := fun W => by rw [bytesWorld_size]
  have HZ2 : Hid (∀ W, W.heap.size + 1 = (bytesWorld W 5 (bs ar)).heap.size) := fun W => by rw [bytesWorld_size]
  generalize hG1 : f1 st mk = g1
  generalize hG2 : f2 st im = g2
  generalize hG3 : f3 st ar = g3
  generalize hG4 : f4 st tx = g4
  generalize bs im = S1 at *
  generalize bs ar = S2 at *
  generalize bs tx = S3 at *
  have B1 : Box (w.alloc (.cells #[.int .i64 st, .int .i64 mk, .string S1, .string S2, .string S3] 23)) w.heap.size 23 [.int .i64 st, .int .i64 mk, .string S1, .string S2, .string S3] := Box.new _ _ _
  have hb1 : Below w.heap.size w (w.alloc (.cells #[.int .i64 st, .int .i64 mk, .string S1, .string S2, .string S3] 23)) := (Below.refl _ _).alloc (Nat.le_refl _) _
  have HRX : Hid (∃ R : Int, R = if (g1 && g2 && g3 && g4 && im.all midB && ar.all sgnB) = true then 0 else 4) := ⟨_, rfl⟩
  obtain ⟨R, hR⟩ := HRX.out
  rw [← hR]
  have HR0 := Hid.mk' hR
  clear hR HRX
  go_enter Tryd.func6, Tryd.ntmps6
  go_upto_region 1 with fail
  generalize hW1 : (w.alloc (.cells #[.int .i64 st, .int .i64 mk, .string S1, .string S2, .string S3] 23)) = w1 at *
  clear hW1
  have HB := Hid.mk' B1
  have H1 := Hid.mk' hb1
  clear hb1
  have d0 : w1.cell? ⟨w.heap.size, 0, none⟩ = some (.int .i64 st) := B1.cell (j := 0) rfl
  have d1 : w1.cell? ⟨w.heap.size, 1, none⟩ = some (.int .i64 mk) := B1.cell (j := 1) rfl
  have d2 : w1.cell? ⟨w.heap.size, 2, none⟩ = some (.string S1) := B1.cell (j := 2) rfl
  have d3 : w1.cell? ⟨w.heap.size, 3, none⟩ = some (.string S2) := B1.cell (j := 3) rfl
  have d4 : w1.cell? ⟨w.heap.size, 4, none⟩ = some (.string S3) := B1.cell (j := 4) rfl
  clear B1
  go_cut [3] (fun s3 wx => s3 = .bool g1 ∧ w1 = wx)
  case first =>
    subst hG1
    by_cases k1 : 0 ≤ st ∧ st ≤ 10
    · by_cases k2 : mk = 0
      · subst k2
        go_wp2_with fail
        have HT := Hid.mk' (fun W => HBT.out (st) 0 10 W)
        simp only [show btw (st) 0 10 = true from decide_eq_true k1] at HT
        refine (HT.out _).mono ?_
        rintro e w2 ⟨rfl, rfl⟩
        clear HT
        go_wp2_with fail
        go_meet
        exact ⟨congrArg Value.bool (by (first | rw [Bool.true_and] | skip); unfold f1; exact (decide_eq_true (by omega)).symm), rfl⟩
      · have q2 : (mk == 0) = false := beq_false_of_ne k2
        by_cases k3 : 60 ≤ mk ∧ mk ≤ 63
        · by_cases k4 : 4 ≤ st ∧ st ≤ 5
          · go_wp2_with fail
            have HT := Hid.mk' (fun W => HBT.out (st) 0 10 W)
            simp only [show btw (st) 0 10 = true from decide_eq_true k1] at HT
            refine (HT.out _).mono ?_
            rintro e w2 ⟨rfl, rfl⟩
            clear HT
            go_wp2_with fail
            have HT := Hid.mk' (fun W => HBT.out (mk) 60 63 W)
            simp only [show btw (mk) 60 63 = true from decide_eq_true k3] at HT
            refine (HT.out _).mono ?_
            rintro e w2 ⟨rfl, rfl⟩
            clear HT
            go_wp2_with fail
            have HT := Hid.mk' (fun W => HBT.out (st) 4 5 W)
            simp only [show btw (st) 4 5 = true from decide_eq_true k4] at HT
            refine (HT.out _).mono ?_
            rintro e w2 ⟨rfl, rfl⟩
            clear HT
            go_wp2_with fail
            go_meet
            exact ⟨congrArg Value.bool (by (first | rw [Bool.true_and] | skip); unfold f1; exact (decide_eq_true (by omega)).symm), rfl⟩
          · go_wp2_with fail
            have HT := Hid.mk' (fun W => HBT.out (st) 0 10 W)
            simp only [show btw (st) 0 10 = true from decide_eq_true k1] at HT
            refine (HT.out _).mono ?_
            rintro e w2 ⟨rfl, rfl⟩
            clear HT
            go_wp2_with fail
            have HT := Hid.mk' (fun W => HBT.out (mk) 60 63 W)
            simp only [show btw (mk) 60 63 = true from decide_eq_true k3] at HT
            refine (HT.out _).mono ?_
            rintro e w2 ⟨rfl, rfl⟩
            clear HT
            go_wp2_with fail
            have HT := Hid.mk' (fun W => HBT.out (st) 4 5 W)
            simp only [show btw (st) 4 5 = false from decide_eq_false k4] at HT
            refine (HT.out _).mono ?_
            rintro e w2 ⟨rfl, rfl⟩
            clear HT
            go_wp2_with fail
            go_meet
            exact ⟨congrArg Value.bool (by (first | rw [Bool.true_and] | skip); unfold f1; exact (decide_eq_false (by omega)).symm), rfl⟩
        · go_wp2_with fail
          have HT := Hid.mk' (fun W => HBT.out (st) 0 10 W)
          simp only [show btw (st) 0 10 = true from decide_eq_true k1] at HT
          refine (HT.out _).mono ?_
          rintro e w2 ⟨rfl, rfl⟩
          clear HT
          go_wp2_with fail
          have HT := Hid.mk' (fun W => HBT.out (mk) 60 63 W)
          simp only [show btw (mk) 60 63 = false from decide_eq_false k3] at HT
          refine (HT.out _).mono ?_
          rintro e w2 ⟨rfl, rfl⟩
          clear HT
          go_wp2_with fail
          go_meet
          exact ⟨congrArg Value.bool (by (first | rw [Bool.true_and] | skip); unfold f1; exact (decide_eq_false (by omega)).symm), rfl⟩
    · go_wp2_with fail
      have HT := Hid.mk' (fun W => HBT.out (st) 0 10 W)
      simp only [show btw (st) 0 10 = false from decide_eq_false k1] at HT
      refine (HT.out _).mono ?_
      rintro e w2 ⟨rfl, rfl⟩
      clear HT
      go_wp2_with fail
      go_meet
      exact ⟨congrArg Value.bool (by (first | rw [Bool.true_and] | skip); unfold f1; exact (decide_eq_false (by omega)).symm), rfl⟩
  case rest =>
  obtain ⟨rfl, rfl⟩ := hcut
  go_upto_region 2 with fail
  go_cut [3] (fun s3 wx => s3 = .bool (g1 && g2) ∧ w1 = wx)
  case first =>
    clear hG1
    subst hG2
    cases g1 with
    | false =>
      go_wp2_with fail
      go_meet
      exact ⟨congrArg Value.bool rfl, rfl⟩
    | true =>
      by_cases k1 : im.length ≤ 3
      · have q1 : (S1.size : Int) ≤ 3 := by omega
        have hem : (0 < im.length ∧ S1.toList.isEmpty = false) ∨ (im.length = 0 ∧ S1.toList.isEmpty = true) := by
          cases im with
          | nil => exact .inr ⟨rfl, e1⟩
          | cons x r => exact .inl ⟨Nat.succ_pos _, e1⟩
        clear e1 z1
        rcases hem with ⟨hem, e1⟩ | ⟨hem, e1⟩
        · by_cases k2 : st = 2
          · subst k2
            go_wp2_with fail
            go_meet
            exact ⟨congrArg Value.bool (by (first | rw [Bool.true_and] | skip); unfold f2; exact (decide_eq_true (by omega)).symm), rfl⟩
          · have q2 : (st == 2) = false := beq_false_of_ne k2
            by_cases k3 : st = 5
            · subst k3
              go_wp2_with fail
              go_meet
              exact ⟨congrArg Value.bool (by (first | rw [Bool.true_and] | skip); unfold f2; exact (decide_eq_true (by omega)).symm), rfl⟩
            · have q3 : (st == 5) = false := beq_false_of_ne k3
              go_wp2_with fail
              go_meet
              exact ⟨congrArg Value.bool (by (first | rw [Bool.true_and] | skip); unfold f2; exact (decide_eq_false (by omega)).symm), rfl⟩
        · by_cases k2 : st = 2
          · subst k2
            go_wp2_with fail
            go_meet
            exact ⟨congrArg Value.bool (by (first | rw [Bool.true_and] | skip); unfold f2; exact (decide_eq_false (by omega)).symm), rfl⟩
          · have q2 : (st == 2) = false := beq_false_of_ne k2
            by_cases k3 : st = 5
            · subst k3
              go_wp2_with fail
              go_meet
              exact ⟨congrArg Value.bool (by (first | rw [Bool.true_and] | skip); unfold f2; exact (decide_eq_false (by omega)).symm), rfl⟩
            · have q3 : (st == 5) = false := beq_false_of_ne k3
              go_wp2_with fail
              go_meet
              exact ⟨congrArg Value.bool (by (first | rw [Bool.true_and] | skip); unfold f2; exact (decide_eq_true (by omega)).symm), rfl⟩
      · have q1 : ¬ (S1.size : Int) ≤ 3 := by omega
        go_wp2_with fail
        go_meet
        exact ⟨congrArg Value.bool (by (first | rw [Bool.true_and] | skip); unfold f2; exact (decide_eq_false (by omega)).symm), rfl⟩
  case rest =>
  obtain ⟨rfl, rfl⟩ := hcut
  go_upto_region 3 with fail
  go_cut [3] (fun s3 wx => s3 = .bool ((g1 && g2) && g3) ∧ w1 = wx)
  case first =>
    subst hG3
    generalize (g1 && g2) = gp at *
    cases gp with
    | false =>
      go_wp2_with fail
      go_meet
      exact ⟨congrArg Value.bool rfl, rfl⟩
    | true =>
      by_cases k1 : ar.length ≤ 100
      · have q1 : (S2.size : Int) ≤ 100 := by omega
        have hem : (0 < ar.length ∧ S2.toList.isEmpty = false) ∨ (ar.length = 0 ∧ S2.toList.isEmpty = true) := by
          cases ar with
          | nil => exact .inr ⟨rfl, e2⟩
          | cons x r => exact .inl ⟨Nat.succ_pos _, e2⟩
        clear e2 z2
        rcases hem with ⟨hem, e2⟩ | ⟨hem, e2⟩
        · by_cases k2 : 4 ≤ st ∧ st ≤ 5
          · go_wp2_with fail
            have HT := Hid.mk' (fun W => HBT.out (st) 4 5 W)
            simp only [show btw (st) 4 5 = true from decide_eq_true k2] at HT
            refine (HT.out _).mono ?_
            rintro e w2 ⟨rfl, rfl⟩
            clear HT
            go_wp2_with fail
            go_meet
            exact ⟨congrArg Value.bool (by (first | rw [Bool.true_and] | skip); unfold f3; exact (decide_eq_true (by omega)).symm), rfl⟩
          · go_wp2_with fail
            have HT := Hid.mk' (fun W => HBT.out (st) 4 5 W)
            simp only [show btw (st) 4 5 = false from decide_eq_false k2] at HT
            refine (HT.out _).mono ?_
            rintro e w2 ⟨rfl, rfl⟩
            clear HT
            go_wp2_with fail
            go_meet
            exact ⟨congrArg Value.bool (by (first | rw [Bool.true_and] | skip); unfold f3; exact (decide_eq_false (by omega)).symm), rfl⟩
        · go_wp2_with fail
          go_meet
          exact ⟨congrArg Value.bool (by (first | rw [Bool.true_and] | skip); unfold f3; exact (decide_eq_true (by omega)).symm), rfl⟩
      · have q1 : ¬ (S2.size : Int) ≤ 100 := by omega
        go_wp2_with fail
        go_meet
        exact ⟨congrArg Value.bool (by (first | rw [Bool.true_and] | skip); unfold f3; exact (decide_eq_false (by omega)).symm), rfl⟩
  case rest =>
  obtain ⟨rfl, rfl⟩ := hcut
  go_upto_region 4 with fail
  go_cut [3] (fun s3 wx => s3 = .bool ((g1 && g2 && g3) && g4) ∧ w1 = wx)
  case first =>
    subst hG4
    generalize (g1 && g2 && g3) = gp at *
    cases gp with
    | false =>
      go_wp2_with fail
      go_meet
      exact ⟨congrArg Value.bool rfl, rfl⟩
    | true =>
      by_cases k1 : tx.length ≤ 256
      · have q1 : (S3.size : Int) ≤ 256 := by omega
        have hem : (0 < tx.length ∧ S3.toList.isEmpty = false) ∨ (tx.length = 0 ∧ S3.toList.isEmpty = true) := by
          cases tx with
          | nil => exact .inr ⟨rfl, e3⟩
          | cons x r => exact .inl ⟨Nat.succ_pos _, e3⟩
        clear e3 z3
        rcases hem with ⟨hem, e3⟩ | ⟨hem, e3⟩
        · by_cases k2 : 7 ≤ st ∧ st ≤ 8
          · go_wp2_with fail
            have HT := Hid.mk' (fun W => HBT.out (st) 7 8 W)
            simp only [show btw (st) 7 8 = true from decide_eq_true k2] at HT
            refine (HT.out _).mono ?_
            rintro e w2 ⟨rfl, rfl⟩
            clear HT
            go_wp2_with fail
            go_meet
            exact ⟨congrArg Value.bool (by (first | rw [Bool.true_and] | skip); unfold f4; exact (decide_eq_true (by omega)).symm), rfl⟩
          · go_wp2_with fail
            have HT := Hid.mk' (fun W => HBT.out (st) 7 8 W)
            simp only [show btw (st) 7 8 = false from decide_eq_false k2] at HT
            refine (HT.out _).mono ?_
            rintro e w2 ⟨rfl, rfl⟩
            clear HT
            go_wp2_with fail
            go_meet
            exact ⟨congrArg Value.bool (by (first | rw [Bool.true_and] | skip); unfold f4; exact (decide_eq_false (by omega)).symm), rfl⟩
        · go_wp2_with fail
          go_meet
          exact ⟨congrArg Value.bool (by (first | rw [Bool.true_and] | skip); unfold f4; exact (decide_eq_true (by omega)).symm), rfl⟩
      · have q1 : ¬ (S3.size : Int) ≤ 256 := by omega
        go_wp2_with fail
        go_meet
        exact ⟨congrArg Value.bool (by (first | rw [Bool.true_and] | skip); unfold f4; exact (decide_eq_false (by omega)).symm), rfl⟩
  case rest =>
  obtain ⟨rfl, rfl⟩ := hcut
  clear hG1 hG2 hG3 hG4
  have HE0 : Hid (∃ f, f = (g1 && g2 && g3 && g4)) := ⟨_, rfl⟩
  obtain ⟨f, hf⟩ := HE0.out
  rw [← hf]
  have HE1 := Hid.mk' hf
  clear HE0 hf
  go_upto_region 5 with fail
  have HCW := Hid.mk' (HCV1.out w1)
  have c1 := HCV1.out w1
  have g1b := HG1.out w1
  have HBW1 := Hid.mk' (H1.out.trans (Below.mono (HBB1.out w1) H1.out.size))
  have X2 := HB.out.later (HBB1.out w1)
  have y2 := HZ1.out w1
  have HCE := Hid.mk' (HC1.out w1)
  have hlt1 := HB.out.lt
  generalize bytesWorld w1 5 S1 = w2 at *
  generalize grownCap w1 im.length 0 5 = C1 at *
  have a3 : w2.cell? ⟨w.heap.size, 3, none⟩ = some (.string S2) := X2.cell (j := 3) rfl
  clear HCW HCV1 HG1 HBB1 HC1 HZ1 HB H1 X2 e1 e2 e3 z1 d0 d1 d3 d4
  go_wp2_with fail
  clear c1 g1b d2
  go_loopw [3, 85] (fun s3 s85 wr => ∃ k : Nat, k ≤ im.length ∧ s85 = .int .i64 (k : Int) ∧ s3 = .bool (f && (im.take k).all midB) ∧ wr = w2) (fun _ i _ => im.length - (RowKit.intOf i).toNat)
  case atStart => exact ⟨0, Nat.zero_le _, rfl, by simp, rfl⟩
  case round =>
    obtain ⟨k, hk, rfl, rfl, hw⟩ := hrel
    subst hw
    by_cases hlt : k < im.length
    · have c1 := HCE.out k hlt
      have hb := im[k].toNat_lt
      have hst : (f && (im.take (k + 1)).all midB) = ((f && (im.take k).all midB) && midB im[k]) := by
        rw [List.take_succ_eq_append_getElem hlt, List.all_append]
        simp [Bool.and_assoc]
      have H2 := Hid.mk' (HBT.out (im[k].toNat : Int) 32 47 wr)
      rw [show btw (im[k].toNat : Int) 32 47 = midB im[k] from rfl] at H2
      have HN : Hid (∀ v, v = ((f && (im.take k).all midB) && midB im[k]) → ∃ k' : Nat, k' ≤ im.length ∧ (Value.int .i64 ((k : Int) + 1)) = .int .i64 (k' : Int) ∧ (Value.bool v) = .bool (f && (im.take k').all midB)) := fun v hv => ⟨k + 1, by omega, by simp, by rw [hst, hv]⟩
      have hb1 : (im[k].toNat : Int) < 256 := by omega
      have hb0 : (0 : Int) ≤ (im[k].toNat : Int) := by omega
      clear hst hb HCE HCV2 HG2 HBB2 HC2 HZ2 HBT HBW1
      generalize (f && (im.take k).all midB) = F at *
      generalize midB im[k] = D at *
      generalize (im[k].toNat : Int) = y at *
      cases F with
      | true =>
        go_wp2_with fail
        refine H2.out.mono ?_
        rintro e w5 ⟨rfl, rfl⟩
        obtain ⟨k', q1, q2, q3⟩ := HN.out D (by simp)
        have HR := Hid.mk' (And.intro q1 (And.intro q2 q3))
        clear q1 q2 q3 HN
        go_wp2
        go_roundw
        case rel => exact ⟨k', HR.out.1, HR.out.2.1, HR.out.2.2, trivial⟩
        case measure => simp [RowKit.intOf]; omega
      | false =>
        obtain ⟨k', q1, q2, q3⟩ := HN.out false (by simp)
        have HR := Hid.mk' (And.intro q1 (And.intro q2 q3))
        clear q1 q2 q3 HN
        go_wp2
        go_roundw
        case rel => exact ⟨k', HR.out.1, HR.out.2.1, HR.out.2.2, trivial⟩
        case measure => simp [RowKit.intOf]; omega
    · obtain rfl : k = im.length := by omega
      rw [List.take_length]
      have HE2x : Hid (∃ f', f' = (f && im.all midB)) := ⟨_, rfl⟩
      obtain ⟨f', hf⟩ := HE2x.out
      rw [← hf]
      have HE3 := Hid.mk' hf
      clear HE2x hf
      have HE2 := HCV2.out wr
      have g2b := HG2.out wr
      have HBW2 := Hid.mk' (HBW1.out.trans (Below.mono (HBB2.out wr) HBW1.out.size))
      have y3 := HZ2.out wr
      have HCD := Hid.mk' (HC2.out wr)
      generalize bytesWorld wr 5 S2 = w3 at *
      generalize grownCap wr ar.length 0 5 = C2 at *
      clear HCV2 HG2 HBB2 HC2 HZ2 HCE HBW1
      go_wp2_with fail
      clear HE2 g2b a3
      go_loopw [3, 100] (fun s3 s100 wr => ∃ k : Nat, k ≤ ar.length ∧ s100 = .int .i64 (k : Int) ∧ s3 = .bool (f' && (ar.take k).all sgnB) ∧ wr = w3) (fun _ i _ => ar.length - (RowKit.intOf i).toNat)
      case atStart => exact ⟨0, Nat.zero_le _, rfl, by simp, rfl⟩
      case round =>
        obtain ⟨k, hk, e100, e3, hw⟩ := hrel
        subst e100 e3 hw
        by_cases hlt : k < ar.length
        · have c1 := HCD.out k hlt
          have hb := ar[k].toNat_lt
          have hst : (f' && (ar.take (k + 1)).all sgnB) = ((f' && (ar.take k).all sgnB) && sgnB ar[k]) := by
            rw [List.take_succ_eq_append_getElem hlt, List.all_append]
            simp [Bool.and_assoc]
          have H2 := Hid.mk' (fun W => HBT.out (ar[k].toNat : Int) 48 57 W)
          have HN : Hid (∀ v, v = ((f' && (ar.take k).all sgnB) && sgnB ar[k]) → ∃ k' : Nat, k' ≤ ar.length ∧ (Value.int .i64 ((k : Int) + 1)) = .int .i64 (k' : Int) ∧ (Value.bool v) = .bool (f' && (ar.take k').all sgnB)) := fun v hv => ⟨k + 1, by omega, by simp, by rw [hst, hv]⟩
          have hb1 : (ar[k].toNat : Int) < 256 := by omega
          have hb0 : (0 : Int) ≤ (ar[k].toNat : Int) := by omega
          have hS : sgnB ar[k] = decide ((ar[k].toNat : Int) = 59 ∨ 48 ≤ (ar[k].toNat : Int) ∧ (ar[k].toNat : Int) ≤ 57) := rfl
          clear hst hb HCD HBT HBW2
          generalize (f' && (ar.take k).all sgnB) = F at *
          generalize sgnB ar[k] = D at *
          generalize (ar[k].toNat : Int) = y at *
          cases F with
          | true =>
            by_cases h59 : y = 59
            · subst h59
              obtain ⟨k', q1, q2, q3⟩ := HN.out true (by rw [hS]; rfl)
              have HR := Hid.mk' (And.intro q1 (And.intro q2 q3))
              clear q1 q2 q3 HN hS
              go_wp2
              go_roundw
              case rel => exact ⟨k', HR.out.1, HR.out.2.1, HR.out.2.2, trivial⟩
              case measure => simp [RowKit.intOf]; omega
            · have n59 : (y == 59) = false := beq_false_of_ne h59
              obtain ⟨k', q1, q2, q3⟩ := HN.out (btw y 48 57) (by rw [hS]; unfold btw; simp [h59])
              have HR := Hid.mk' (And.intro q1 (And.intro q2 q3))
              clear q1 q2 q3 HN hS
              generalize btw y 48 57 = bt at *
              go_wp2_with fail
              refine (H2.out _).mono ?_
              rintro e w5 ⟨rfl, rfl⟩
              go_wp2
              go_roundw
              case rel => exact ⟨k', HR.out.1, HR.out.2.1, HR.out.2.2, trivial⟩
              case measure => simp [RowKit.intOf]; omega
          | false =>
            obtain ⟨k', q1, q2, q3⟩ := HN.out false (by simp)
            have HR := Hid.mk' (And.intro q1 (And.intro q2 q3))
            clear q1 q2 q3 HN hS
            go_wp2
            go_roundw
            case rel => exact ⟨k', HR.out.1, HR.out.2.1, HR.out.2.2, trivial⟩
            case measure => simp [RowKit.intOf]; omega
        · obtain rfl : k = ar.length := by omega
          rw [List.take_length]
          have HE4 : Hid (∃ f2, f2 = (f' && ar.all sgnB)) := ⟨_, rfl⟩
          obtain ⟨f2, hf⟩ := HE4.out
          rw [← hf]
          have HE5 : Hid ((g1 && g2 && g3 && g4 && im.all midB && ar.all sgnB) = f2) := by rw [Hid, hf, HE3.out, HE1.out]
          clear HE4 hf HE3 HE1 HCD
          have HR1 := HR0.out
          rw [HE5.out] at HR1
          clear HE5 HR0
          cases f2 with
          | true =>
            rw [if_pos rfl] at HR1
            subst HR1
            go_wp2
            go_ret
            exact ⟨rfl, HBW2.out⟩
          | false =>
            rw [if_neg (by decide)] at HR1
            subst HR1
            go_wp2
            go_ret
            exact ⟨rfl, HBW2.out⟩
end Go.Proofs.YtneiiinheimglaaDoor.B
