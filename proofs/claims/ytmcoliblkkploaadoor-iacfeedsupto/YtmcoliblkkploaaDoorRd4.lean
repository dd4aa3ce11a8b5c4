/-
  Contracts of the reader's methods take, wire and of newReader, Check: over the reader in memory; conditions: 'RS.fits'.
-/
import Derived.Test.YtmcoliblkkploaaDoorRd3
namespace Go.Proofs.YtmcoliblkkploaaDoor
open Go.RowKit

set_option maxHeartbeats 3000000 in
theorem take_any : Does 25 RS.take := by
  intro base w b r vw vd vt h hf c
  have hlt := byte_lt c
  have hge : (0 : Int) ≤ (c.toNat : Int) := Int.natCast_nonneg _
  have c0 := h.c0
  have c1 := h.c1
  have c2 := h.c2
  have f0 := h.fr 0
  have f2 := h.fr 2
  have hlo := h.lo
  by_cases m0 : r.mode = 0
  · rw [RS.take, if_pos m0]
    rw [m0] at c0
    clear m0
    have H := takeByte_any base w b r vw vd vt h hf c
    generalize r.takeByte c = r1 at *
    generalize (c.toNat : Int) = n at *
    go_enter Tryd.func25, Tryd.ntmps25
    go_wp2_with (go_at_call 39; refine H.mono ?_; rintro e w' ⟨rfl, h1, h2⟩)
    go_end0
    exact ⟨rfl, h1, h2⟩
  rw [RS.take, if_neg m0]
  by_cases m1 : r.mode = 1
  · rw [if_pos m1]
    rw [m1] at c0
    clear m0 m1
    have H := takeCommand_any base w b r vw vd vt h hf c
    generalize r.takeCommand c = r1 at *
    generalize (c.toNat : Int) = n at *
    go_enter Tryd.func25, Tryd.ntmps25
    go_wp2_with (go_at_call 40; refine H.mono ?_; rintro e w' ⟨rfl, h1, h2⟩)
    go_end0
    exact ⟨rfl, h1, h2⟩
  rw [if_neg m1]
  by_cases m2 : r.mode = 2
  · rw [if_pos m2]
    rw [m2] at c0
    clear m0 m1 m2
    generalize (c.toNat : Int) = n at *
    go_enter Tryd.func25, Tryd.ntmps25
    go_wp2_with (go_at_call 41; refine (tell_any base w b r vw vd vt h hf ⟨3, r.cmd, n, []⟩).mono ?_; rintro e w' ⟨rfl, h1, h2⟩)
    go_end0
    exact ⟨rfl, h1, h2⟩
  rw [if_neg m2]
  by_cases m3 : r.mode = 3
  · rw [if_pos m3]
    rw [m3] at c0
    clear m0 m1 m2 m3
    generalize (c.toNat : Int) = n at *
    go_enter Tryd.func25, Tryd.ntmps25
    go_wp2
    go_end0
    exact ⟨rfl, ⟨_, _, _, (h.mode 4).opt _⟩, ((Below.refl base w).setCell hlo _).setCell hlo _⟩
  rw [if_neg m3]
  by_cases m4 : r.mode = 4
  · rw [if_pos m4]
    rw [m4] at c0
    clear m0 m1 m2 m3 m4
    have H := takeWord_any base w b r vw vd vt h hf c
    generalize r.takeWord c = r1 at *
    generalize (c.toNat : Int) = n at *
    go_enter Tryd.func25, Tryd.ntmps25
    go_wp2_with (go_at_call 42; refine H.mono ?_; rintro e w' ⟨rfl, h1, h2⟩)
    go_end0
    exact ⟨rfl, h1, h2⟩
  rw [if_neg m4]
  by_cases m5 : r.mode = 5
  · rw [if_pos m5]
    rw [m5] at c0
    clear m0 m1 m2 m3 m4 m5
    have H := takeWordsCommand_any base w b r vw vd vt h hf c
    generalize r.takeWordsCommand c = r1 at *
    generalize (c.toNat : Int) = n at *
    go_enter Tryd.func25, Tryd.ntmps25
    go_wp2_with (go_at_call 43; refine H.mono ?_; rintro e w' ⟨rfl, h1, h2⟩)
    go_end0
    exact ⟨rfl, h1, h2⟩
  rw [if_neg m5]
  have n0 : (r.mode == 0) = false := beq_eq_false_iff_ne.2 m0
  have n1 : (r.mode == 1) = false := beq_eq_false_iff_ne.2 m1
  have n2 : (r.mode == 2) = false := beq_eq_false_iff_ne.2 m2
  have n3 : (r.mode == 3) = false := beq_eq_false_iff_ne.2 m3
  have n4 : (r.mode == 4) = false := beq_eq_false_iff_ne.2 m4
  have n5 : (r.mode == 5) = false := beq_eq_false_iff_ne.2 m5
  clear m0 m1 m2 m3 m4 m5
  generalize (c.toNat : Int) = n at *
  go_enter Tryd.func25, Tryd.ntmps25
  go_wp2
  go_end0
  exact ⟨rfl, ⟨_, _, _, h⟩, Below.refl _ _⟩

/-- '[]byte(s)': what lies behind it -/
theorem conv_own (w : World) (base : Nat) (s : List UInt8) (hb : base ≤ w.heap.size) (hs : s.length ≤ maxLen) :
    OwnR (Lib.bytesWorld w 5 ⟨s.toArray⟩) base 5 1 (.slice (some ⟨w.heap.size, 0, none⟩) s.length (grownCap w s.length 0 5)) s.length (bcells s) := by
  have hge := grownCap_ge w s.length 0 5
  have hsz : (⟨s.toArray⟩ : ByteArray).size = s.length := by simp [ByteArray.size]
  have hcs : (Lib.bytesCells w 5 ⟨s.toArray⟩).size = grownCap w s.length 0 5 := by
    simp only [Lib.bytesCells, Array.size_append, Array.size_map, Array.size_replicate, hsz]
    simp only [List.size_toArray]
    omega
  refine ⟨by simp [bcells], .inr ⟨w.heap.size, _, _, _, rfl, hb, Lib.bytesWorld_at_new w 5 ⟨s.toArray⟩, .inr (Nat.le_refl _), hge, grownCap_le_maxLen w _ _ _ hs, by rw [hcs, Nat.mul_one], ?_⟩⟩
  simp only [Lib.bytesCells, Array.toList_append, Array.toList_map, Nat.mul_one]
  rw [List.take_append_of_le_length (by simp)]
  simp [bcells, List.take_of_length_le]

set_option maxHeartbeats 800000 in
theorem newReader_any (w : World) (mode cmd opt : Int) (buf : List UInt8) (over : Bool) (hs : buf.length ≤ 4096) :
    Calls Tryd.prog 24 #[.agg #[.int .i64 mode, .int .i64 cmd, .int .i64 opt, .string ⟨buf.toArray⟩, .bool over]] w fun e w' => ∃ b, e = .returned (.pointer (some ⟨b, 0, none⟩)) ∧ RdE w.heap.size w' b ⟨mode, cmd, opt, over, buf, [], []⟩ ∧ Below w.heap.size w w' := by
  have hcv := fun W : World => Lib.run_convert_string_bytes (P := Tryd.prog) W 9 45 5 ⟨buf.toArray⟩ Tryd.underlying9 Tryd.underlying45 Tryd.underlying5
  go_enter Tryd.func24, Tryd.ntmps24
  go_wp2
  go_ret
  have hsz : ∀ (W : World) (l : List UInt8), (Lib.bytesWorld W 5 ⟨l.toArray⟩).heap.size = W.heap.size + 1 := fun W l => Lib.bytesWorld_size W 5 ⟨l.toArray⟩
  have hBel : ∀ (W : World) (l : List UInt8) (o : Obj), w.heap.size ≤ W.heap.size → Below w.heap.size w W → Below w.heap.size w ((Lib.bytesWorld W 5 ⟨l.toArray⟩).alloc o) := by
    intro W l o hW hb
    refine Below.alloc (hb.trans (b := W) (c := Lib.bytesWorld W 5 ⟨l.toArray⟩) ⟨rfl, rfl, rfl, ?_, fun k hk => Lib.bytesWorld_at_old W 5 ⟨l.toArray⟩ k (by omega)⟩) ?_ o
    · rw [hsz]; omega
    · rw [hsz]; omega
  refine ⟨_, rfl, ⟨_, _, _, ⟨(MapKept.heap_alloc _ _).1, ?_, ?_, OwnR.nil _ _ _ _, OwnR.nil _ _ _ _, fun k _ e => by simp [Value.ownBlock] at e⟩⟩, ?_⟩
  · rw [hsz]; simp; omega
  · have h1 := conv_own (w.alloc (.cells #[.int .i64 mode, .int .i64 cmd, .int .i64 opt, .string ⟨buf.toArray⟩, .bool over] 23)) w.heap.size buf (by simp) (by unfold maxLen; omega)
    have h2 := h1.keptAt (w' := (Lib.bytesWorld (w.alloc (.cells #[.int .i64 mode, .int .i64 cmd, .int .i64 opt, .string ⟨buf.toArray⟩, .bool over] 23)) 5 ⟨buf.toArray⟩).alloc (.cells #[.int .i64 mode, .int .i64 cmd, .int .i64 opt, .string ⟨#[]⟩, .bool over, .slice (some ⟨w.heap.size + 1, 0, none⟩) buf.length (grownCap (w.alloc (.cells #[.int .i64 mode, .int .i64 cmd, .int .i64 opt, .string ⟨buf.toArray⟩, .bool over] 23)) buf.length 0 5), .slice none 0 0, .slice none 0 0] 60)) fun k hk => Below.heap_alloc _ _ _ (h1.lt k hk).2
    simpa using h2
  · exact hBel _ _ _ (by simp) ((Below.refl _ _).alloc (Nat.le_refl _) _)

/-- a wire, and what a right one is -/
structure Wr where
  mode : Int
  cmd : Int
  opt : Int
  buf : List UInt8
  over : Bool
def Wr.val (x : Wr) : Value := .agg #[.int .i64 x.mode, .int .i64 x.cmd, .int .i64 x.opt, .string ⟨x.buf.toArray⟩, .bool x.over]
def Wr.eq (x y : Wr) : Bool := x.mode == y.mode && (x.cmd == y.cmd && (x.opt == y.opt && (x.buf == y.buf && x.over == y.over)))
def Tk.val (t : Tk) : Value := .agg #[.int .i64 t.kind, .int .i64 t.cmd, .int .i64 t.opt, .string ⟨t.data.toArray⟩]
def Tk.eq (x y : Tk) : Bool := x.kind == y.kind && (x.cmd == y.cmd && (x.opt == y.opt && x.data == y.data))

theorem bytes_beq (a b : List UInt8) : ((⟨a.toArray⟩ : ByteArray).toList == (⟨b.toArray⟩ : ByteArray).toList) = (a == b) := by
  rw [ByteArray.toList_eq, ByteArray.toList_eq]

theorem Wr.run_eq (x y : Wr) (w : World) : (Op.equalIn 10000 23 x.val y.val).run Tryd.prog w = .ok (x.eq y) w := by
  have u3 := Tryd.underlying3
  have a3 := Tryd.isAgg3
  have z3 := Tryd.sizeOf3
  have u9 := Tryd.underlying9
  have a9 := Tryd.isAgg9
  have z9 := Tryd.sizeOf9
  have u4 := Tryd.underlying4
  have a4 := Tryd.isAgg4
  have z4 := Tryd.sizeOf4
  have hS : Tryd.prog.underlying 23 = some (.struct (Tryd.prog.fieldsOf 23)) := by kernel_rfl
  have hp : Tryd.prog.stoodInHeld 23 = false := by kernel_rfl
  simp only [Wr.val]
  rw [show (10000 : Nat) = 9999 + 1 from rfl, run_equalIn_agg w 9999 23 _ _ hS hp]
  simp only [Program.fieldsOf, Tryd.underlying23]
  go_simp
  unfold Wr.eq
  by_cases h1 : x.mode = y.mode <;> by_cases h2 : x.cmd = y.cmd <;> by_cases h3 : x.opt = y.opt <;> by_cases h4 : x.buf = y.buf <;> by_cases h5 : x.over = y.over <;> simp [h1, h2, h3, h4, h5]

theorem Tk.run_eq (x y : Tk) (w : World) : (Op.equalIn 10000 34 x.val y.val).run Tryd.prog w = .ok (x.eq y) w := by
  have u3 := Tryd.underlying3
  have a3 := Tryd.isAgg3
  have z3 := Tryd.sizeOf3
  have u9 := Tryd.underlying9
  have a9 := Tryd.isAgg9
  have z9 := Tryd.sizeOf9
  have hS : Tryd.prog.underlying 34 = some (.struct (Tryd.prog.fieldsOf 34)) := by kernel_rfl
  have hp : Tryd.prog.stoodInHeld 34 = false := by kernel_rfl
  simp only [Tk.val]
  rw [show (10000 : Nat) = 9999 + 1 from rfl, run_equalIn_agg w 9999 34 _ _ hS hp]
  simp only [Program.fieldsOf, Tryd.underlying34]
  go_simp
  unfold Tk.eq
  by_cases h1 : x.kind = y.kind <;> by_cases h2 : x.cmd = y.cmd <;> by_cases h3 : x.opt = y.opt <;> by_cases h4 : x.data = y.data <;> simp [h1, h2, h3, h4]

set_option maxHeartbeats 400000 in
theorem isByte_yes (n : Int) (w : World) (h1 : 0 ≤ n) (h2 : n ≤ 255) : Calls Tryd.prog 45 #[.int .i64 n] w fun e w' => e = .returned (.bool true) ∧ w = w' := by
  go_enter Tryd.func45, Tryd.ntmps45
  go_wp2
  go_ret
  exact ⟨rfl, rfl⟩
set_option maxHeartbeats 400000 in
theorem isByte_no (n : Int) (w : World) (h : ¬ (0 ≤ n ∧ n ≤ 255)) : Calls Tryd.prog 45 #[.int .i64 n] w fun e w' => e = .returned (.bool false) ∧ w = w' := by
  by_cases h1 : 0 ≤ n
  · have h2 : ¬ n ≤ 255 := fun e => h ⟨h1, e⟩
    clear h
    go_enter Tryd.func45, Tryd.ntmps45
    go_wp2
    go_ret
    exact ⟨rfl, rfl⟩
  · clear h
    go_enter Tryd.func45, Tryd.ntmps45
    go_wp2
    go_ret
    exact ⟨rfl, rfl⟩

def areWords (buf : List UInt8) (over : Bool) : Bool := if over = true then buf == [] else decide (buf.length ≤ 4096)
set_option maxHeartbeats 400000 in
theorem areWords_any (buf : List UInt8) (over : Bool) (w : World) (hb : buf.length ≤ 1000000000) : Calls Tryd.prog 46 #[.string ⟨buf.toArray⟩, .bool over] w fun e w' => e = .returned (.bool (areWords buf over)) ∧ w = w' := by
  cases over with
  | true =>
    go_enter Tryd.func46, Tryd.ntmps46
    go_wp2
    go_ret
    exact ⟨by simp [areWords], rfl⟩
  | false =>
    go_enter Tryd.func46, Tryd.ntmps46
    go_wp2
    go_ret
    exact ⟨by simp [areWords]; omega, rfl⟩

def Wr.ok (x : Wr) : Bool :=
  if x.mode = 0 ∨ x.mode = 1 ∨ x.mode = 3 then x.eq ⟨x.mode, 0, 0, [], false⟩
  else if x.mode = 2 then decide (251 ≤ x.cmd ∧ x.cmd ≤ 254) && x.eq ⟨x.mode, x.cmd, 0, [], false⟩
  else if x.mode = 4 ∨ x.mode = 5 then x.cmd == 0 && (decide (0 ≤ x.opt ∧ x.opt ≤ 255) && areWords x.buf x.over)
  else false

set_option maxHeartbeats 2000000 in
theorem isWire_013 (x : Wr) (w : World) (hm : x.mode = 0 ∨ x.mode = 1 ∨ x.mode = 3) :
    Calls Tryd.prog 29 #[x.val] w fun e w' => e = .returned (.bool x.ok) ∧ Below w.heap.size w w' := by
  rw [Wr.ok, if_pos hm]
  obtain ⟨mode, cmd, opt, buf, over⟩ := x
  simp only at hm
  simp only [Wr.val]
  have he := fun W => Wr.run_eq ⟨mode, cmd, opt, buf, over⟩ ⟨mode, 0, 0, [], false⟩ W
  simp only [Wr.val] at he
  generalize Wr.eq ⟨mode, cmd, opt, buf, over⟩ ⟨mode, 0, 0, [], false⟩ = B at *
  rcases hm with rfl | rfl | rfl
  all_goals
    go_enter Tryd.func29, Tryd.ntmps29
    go_wp2
    go_ret
    exact ⟨rfl, by first | exact (Below.refl _ _).alloc (Nat.le_refl _) _ | exact ((Below.refl _ _).alloc (Nat.le_refl _) _).drew⟩

set_option maxHeartbeats 2000000 in
theorem isWire_2 (x : Wr) (w : World) (hm : x.mode = 2) :
    Calls Tryd.prog 29 #[x.val] w fun e w' => e = .returned (.bool x.ok) ∧ Below w.heap.size w w' := by
  rw [Wr.ok, if_neg (by omega), if_pos hm]
  obtain ⟨mode, cmd, opt, buf, over⟩ := x
  simp only at hm
  simp only [Wr.val]
  have he := fun W => Wr.run_eq ⟨mode, cmd, opt, buf, over⟩ ⟨mode, cmd, 0, [], false⟩ W
  simp only [Wr.val] at he
  generalize Wr.eq ⟨mode, cmd, opt, buf, over⟩ ⟨mode, cmd, 0, [], false⟩ = B at *
  subst hm
  by_cases hc : 251 ≤ cmd ∧ cmd ≤ 254
  · have e1 : decide (251 ≤ cmd ∧ cmd ≤ 254) = true := decide_eq_true hc
    rw [e1, Bool.true_and]
    obtain ⟨q1, q2⟩ := hc
    clear e1
    go_enter Tryd.func29, Tryd.ntmps29
    go_wp2_with (go_at_call 44; refine (isNegCmd_yes cmd _ q1 q2).mono ?_; rintro e w' ⟨rfl, rfl⟩)
    go_ret
    exact ⟨rfl, by first | exact (Below.refl _ _).alloc (Nat.le_refl _) _ | exact ((Below.refl _ _).alloc (Nat.le_refl _) _).drew⟩
  · have e1 : decide (251 ≤ cmd ∧ cmd ≤ 254) = false := decide_eq_false hc
    rw [e1, Bool.false_and]
    clear e1 he
    go_enter Tryd.func29, Tryd.ntmps29
    go_wp2_with (go_at_call 44; refine (isNegCmd_no cmd _ hc).mono ?_; rintro e w' ⟨rfl, rfl⟩)
    go_ret
    exact ⟨rfl, by first | exact (Below.refl _ _).alloc (Nat.le_refl _) _ | exact ((Below.refl _ _).alloc (Nat.le_refl _) _).drew⟩

set_option maxHeartbeats 4000000 in
theorem isWire_45 (x : Wr) (w : World) (hm : x.mode = 4 ∨ x.mode = 5) (hb : x.buf.length ≤ 1000000000) :
    Calls Tryd.prog 29 #[x.val] w fun e w' => e = .returned (.bool x.ok) ∧ Below w.heap.size w w' := by
  rw [Wr.ok, if_neg (by omega), if_neg (by omega), if_pos hm]
  obtain ⟨mode, cmd, opt, buf, over⟩ := x
  simp only at hm hb
  simp only [Wr.val]
  have hw := fun W => areWords_any buf over W hb
  generalize areWords buf over = B at *
  by_cases hc : cmd = 0
  · subst hc
    by_cases ho : 0 ≤ opt ∧ opt ≤ 255
    · have e1 : decide (0 ≤ opt ∧ opt ≤ 255) = true := decide_eq_true ho
      rw [e1]
      obtain ⟨q1, q2⟩ := ho
      clear e1
      have HW := Hid.mk' hw
      clear hw
      rcases hm with rfl | rfl
      all_goals
        go_enter Tryd.func29, Tryd.ntmps29
        go_wp2_with (first | (go_at_call 45; refine (isByte_yes opt _ q1 q2).mono ?_; rintro e w' ⟨rfl, rfl⟩) | (go_at_call 46; refine (HW.out _).mono ?_; rintro e w' ⟨rfl, rfl⟩))
        go_ret
        exact ⟨by simp, by first | exact (Below.refl _ _).alloc (Nat.le_refl _) _ | exact ((Below.refl _ _).alloc (Nat.le_refl _) _).drew⟩
    · have e1 : decide (0 ≤ opt ∧ opt ≤ 255) = false := decide_eq_false ho
      rw [e1]
      clear e1 hw
      rcases hm with rfl | rfl
      all_goals
        go_enter Tryd.func29, Tryd.ntmps29
        go_wp2_with (go_at_call 45; refine (isByte_no opt _ ho).mono ?_; rintro e w' ⟨rfl, rfl⟩)
        go_ret
        exact ⟨by simp, by first | exact (Below.refl _ _).alloc (Nat.le_refl _) _ | exact ((Below.refl _ _).alloc (Nat.le_refl _) _).drew⟩
  · have e1 : (cmd == 0) = false := beq_eq_false_iff_ne.2 hc
    rw [e1]
    clear hc hw
    rcases hm with rfl | rfl
    all_goals
      go_enter Tryd.func29, Tryd.ntmps29
      go_wp2_with fail
      go_ret
      exact ⟨by simp, by first | exact (Below.refl _ _).alloc (Nat.le_refl _) _ | exact ((Below.refl _ _).alloc (Nat.le_refl _) _).drew⟩

set_option maxHeartbeats 2000000 in
theorem isWire_else (x : Wr) (w : World) (h0 : x.mode ≠ 0) (h1 : x.mode ≠ 1) (h2 : x.mode ≠ 2) (h3 : x.mode ≠ 3) (h4 : x.mode ≠ 4) (h5 : x.mode ≠ 5) :
    Calls Tryd.prog 29 #[x.val] w fun e w' => e = .returned (.bool x.ok) ∧ Below w.heap.size w w' := by
  rw [Wr.ok, if_neg (by omega), if_neg h2, if_neg (by omega)]
  obtain ⟨mode, cmd, opt, buf, over⟩ := x
  simp only at h0 h1 h2 h3 h4 h5
  simp only [Wr.val]
  have n0 : (mode == 0) = false := beq_eq_false_iff_ne.2 h0
  have n1 : (mode == 1) = false := beq_eq_false_iff_ne.2 h1
  have n2 : (mode == 2) = false := beq_eq_false_iff_ne.2 h2
  have n3 : (mode == 3) = false := beq_eq_false_iff_ne.2 h3
  have n4 : (mode == 4) = false := beq_eq_false_iff_ne.2 h4
  have n5 : (mode == 5) = false := beq_eq_false_iff_ne.2 h5
  clear h0 h1 h2 h3 h4 h5
  go_enter Tryd.func29, Tryd.ntmps29
  go_wp2
  go_ret
  exact ⟨rfl, (Below.refl _ _).alloc (Nat.le_refl _) _⟩

theorem isWire_any (x : Wr) (w : World) (hb : x.buf.length ≤ 1000000000) :
    Calls Tryd.prog 29 #[x.val] w fun e w' => e = .returned (.bool x.ok) ∧ Below w.heap.size w w' := by
  by_cases h : x.mode = 0 ∨ x.mode = 1 ∨ x.mode = 3
  · exact isWire_013 x w h
  by_cases h2 : x.mode = 2
  · exact isWire_2 x w h2
  by_cases h4 : x.mode = 4 ∨ x.mode = 5
  · exact isWire_45 x w h4 hb
  · exact isWire_else x w (by omega) (by omega) h2 (by omega) (by omega) (by omega)

set_option maxHeartbeats 800000 in
theorem Check_any (x : Wr) (w : World) (hb : x.buf.length ≤ 1000000000) :
    Calls Tryd.prog 10 #[x.val] w fun e w' => e = .returned (.int .i64 (if x.ok = true then 0 else 4)) ∧ Below w.heap.size w w' := by
  have H := fun W => isWire_any x W hb
  cases hB : x.ok with
  | true =>
    rw [hB] at H
    have HW := Hid.mk' H
    clear H hB
    obtain ⟨mode, cmd, opt, buf, over⟩ := x
    simp only [Wr.val] at *
    go_enter Tryd.func10, Tryd.ntmps10
    go_wp2_with (go_at_call 29; refine (HW.out _).mono ?_; rintro e w' ⟨rfl, hb'⟩)
    go_ret
    exact ⟨rfl, ((Below.refl _ _).alloc (Nat.le_refl _) _).trans (hb'.mono (by simp))⟩
  | false =>
    rw [hB] at H
    have HW := Hid.mk' H
    clear H hB
    obtain ⟨mode, cmd, opt, buf, over⟩ := x
    simp only [Wr.val] at *
    go_enter Tryd.func10, Tryd.ntmps10
    go_wp2_with (go_at_call 29; refine (HW.out _).mono ?_; rintro e w' ⟨rfl, hb'⟩)
    go_ret
    exact ⟨rfl, ((Below.refl _ _).alloc (Nat.le_refl _) _).trans (hb'.mono (by simp))⟩

def RS.wire (r : RS) : Wr := ⟨r.mode, r.cmd, r.opt, r.words, r.over⟩

set_option maxHeartbeats 800000 in
theorem wire_any (base : Nat) (w : World) (b : Nat) (r : RS) (vw vd vt : Value) (h : Rd base w b r vw vd vt) :
    Calls Tryd.prog 27 #[.pointer (some ⟨b, 0, none⟩)] w fun e w' => e = .returned r.wire.val ∧ Below w.heap.size w w' := by
  have c0 := h.c0
  have c1 := h.c1
  have c2 := h.c2
  have c3 := h.c3
  have c4 := h.c4
  have c5 := h.c5
  have hblt := h.lt
  have hst : ∀ o1 o2, (convert 45 9 vw).run Tryd.prog ((w.alloc o1).alloc o2) = .ok (.string ⟨r.words.toArray⟩) ((w.alloc o1).alloc o2) := fun o1 o2 => run_str (((h.alloc o1).alloc o2).ow) 0
  go_enter Tryd.func27, Tryd.ntmps27
  go_wp2
  refine bodyPost_ret (v := r.wire.val) (by simp [results, Tryd.results27, go_sem, RS.wire, Wr.val]) rfl ⟨rfl, ?_⟩
  exact ((Below.refl _ _).alloc (Nat.le_refl _) _).alloc (by simp) _
end Go.Proofs.YtmcoliblkkploaaDoor
