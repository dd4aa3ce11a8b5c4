/-
  Contracts of iac.isWritable: by the token's kind; no condition.
-/
import Derived.Test.YtmcoliblkkploaaDoorEsc
namespace Go.Proofs.YtmcoliblkkploaaDoor
open Go.RowKit

def writable (t : Tk) : Bool :=
  if t.kind = 1 then t.eq ⟨t.kind, 0, 0, t.data⟩
  else if t.kind = 2 then decide (240 ≤ t.cmd ∧ t.cmd < 250) && t.eq ⟨t.kind, t.cmd, 0, []⟩
  else if t.kind = 3 then decide (251 ≤ t.cmd ∧ t.cmd ≤ 254) && (decide (0 ≤ t.opt ∧ t.opt ≤ 255) && t.eq ⟨t.kind, t.cmd, t.opt, []⟩)
  else if t.kind = 4 then decide (0 ≤ t.opt ∧ t.opt ≤ 255) && t.eq ⟨t.kind, 0, t.opt, t.data⟩
  else false

set_option maxHeartbeats 4000000 in
theorem isWritable_any (t : Tk) (w : World) :
    Calls Tryd.prog 34 #[t.val] w fun e w' => e = .returned (.bool (writable t)) ∧ Below w.heap.size w w' := by
  have hend : ∀ o, Below w.heap.size w (w.alloc o) := fun o => (Below.refl _ _).alloc (Nat.le_refl _) o
  have HE := Hid.mk' hend
  clear hend
  by_cases h1 : t.kind = 1
  · rw [writable, if_pos h1]
    obtain ⟨kd, cm, op, dt⟩ := t
    simp only at h1
    have he := fun W => Tk.run_eq ⟨kd, cm, op, dt⟩ ⟨kd, 0, 0, dt⟩ W
    simp only [Tk.val] at he ⊢
    generalize Tk.eq ⟨kd, cm, op, dt⟩ ⟨kd, 0, 0, dt⟩ = B at *
    subst h1
    go_enter Tryd.func34, Tryd.ntmps34
    go_wp2
    go_ret
    exact ⟨rfl, HE.out _⟩
  rw [writable, if_neg h1]
  by_cases h2 : t.kind = 2
  · rw [if_pos h2]
    obtain ⟨kd, cm, op, dt⟩ := t
    simp only at h2 h1
    have he := fun W => Tk.run_eq ⟨kd, cm, op, dt⟩ ⟨kd, cm, 0, []⟩ W
    simp only [Tk.val] at he ⊢
    generalize Tk.eq ⟨kd, cm, op, dt⟩ ⟨kd, cm, 0, []⟩ = B at *
    clear h1
    subst h2
    by_cases hc : 240 ≤ cm ∧ cm < 250
    · rw [decide_eq_true hc, Bool.true_and]
      go_enter Tryd.func34, Tryd.ntmps34
      go_wp2_with (go_at_call 52; refine (isPlainCmd_yes cm _ hc.1 hc.2).mono ?_; rintro e w' ⟨rfl, rfl⟩)
      go_ret
      exact ⟨rfl, HE.out _⟩
    · rw [decide_eq_false hc, Bool.false_and]
      go_enter Tryd.func34, Tryd.ntmps34
      go_wp2_with (go_at_call 52; refine (isPlainCmd_no cm _ hc).mono ?_; rintro e w' ⟨rfl, rfl⟩)
      go_ret
      exact ⟨rfl, HE.out _⟩
  rw [if_neg h2]
  by_cases h3 : t.kind = 3
  · rw [if_pos h3]
    obtain ⟨kd, cm, op, dt⟩ := t
    simp only at h1 h2 h3
    have he := fun W => Tk.run_eq ⟨kd, cm, op, dt⟩ ⟨kd, cm, op, []⟩ W
    simp only [Tk.val] at he ⊢
    generalize Tk.eq ⟨kd, cm, op, dt⟩ ⟨kd, cm, op, []⟩ = B at *
    clear h1 h2
    subst h3
    by_cases hc : 251 ≤ cm ∧ cm ≤ 254
    · rw [decide_eq_true hc, Bool.true_and]
      by_cases ho : 0 ≤ op ∧ op ≤ 255
      · rw [decide_eq_true ho, Bool.true_and]
        go_enter Tryd.func34, Tryd.ntmps34
        go_wp2_with (first | (go_at_call 44; refine (isNegCmd_yes cm _ hc.1 hc.2).mono ?_; rintro e w' ⟨rfl, rfl⟩) | (go_at_call 45; refine (isByte_yes op _ ho.1 ho.2).mono ?_; rintro e w' ⟨rfl, rfl⟩))
        go_ret
        exact ⟨rfl, HE.out _⟩
      · rw [decide_eq_false ho, Bool.false_and]
        go_enter Tryd.func34, Tryd.ntmps34
        go_wp2_with (first | (go_at_call 44; refine (isNegCmd_yes cm _ hc.1 hc.2).mono ?_; rintro e w' ⟨rfl, rfl⟩) | (go_at_call 45; refine (isByte_no op _ ho).mono ?_; rintro e w' ⟨rfl, rfl⟩))
        go_ret
        exact ⟨rfl, HE.out _⟩
    · rw [decide_eq_false hc, Bool.false_and]
      go_enter Tryd.func34, Tryd.ntmps34
      go_wp2_with (go_at_call 44; refine (isNegCmd_no cm _ hc).mono ?_; rintro e w' ⟨rfl, rfl⟩)
      go_ret
      exact ⟨rfl, HE.out _⟩
  rw [if_neg h3]
  by_cases h4 : t.kind = 4
  · rw [if_pos h4]
    obtain ⟨kd, cm, op, dt⟩ := t
    simp only at h1 h2 h3 h4
    have he := fun W => Tk.run_eq ⟨kd, cm, op, dt⟩ ⟨kd, 0, op, dt⟩ W
    simp only [Tk.val] at he ⊢
    generalize Tk.eq ⟨kd, cm, op, dt⟩ ⟨kd, 0, op, dt⟩ = B at *
    clear h1 h2 h3
    subst h4
    by_cases ho : 0 ≤ op ∧ op ≤ 255
    · rw [decide_eq_true ho, Bool.true_and]
      go_enter Tryd.func34, Tryd.ntmps34
      go_wp2_with (go_at_call 45; refine (isByte_yes op _ ho.1 ho.2).mono ?_; rintro e w' ⟨rfl, rfl⟩)
      go_ret
      exact ⟨rfl, HE.out _⟩
    · rw [decide_eq_false ho, Bool.false_and]
      go_enter Tryd.func34, Tryd.ntmps34
      go_wp2_with (go_at_call 45; refine (isByte_no op _ ho).mono ?_; rintro e w' ⟨rfl, rfl⟩)
      go_ret
      exact ⟨rfl, HE.out _⟩
  rw [if_neg h4]
  obtain ⟨kd, cm, op, dt⟩ := t
  simp only at h1 h2 h3 h4
  simp only [Tk.val]
  have n1 : (kd == 1) = false := beq_eq_false_iff_ne.2 h1
  have n2 : (kd == 2) = false := beq_eq_false_iff_ne.2 h2
  have n3 : (kd == 3) = false := beq_eq_false_iff_ne.2 h3
  have n4 : (kd == 4) = false := beq_eq_false_iff_ne.2 h4
  clear h1 h2 h3 h4
  go_enter Tryd.func34, Tryd.ntmps34
  go_wp2
  go_ret
  exact ⟨rfl, HE.out _⟩

def text (t : Tk) : List UInt8 × Int :=
  if writable t = true then
    (if t.kind = 2 then ([255, UInt8.ofNat t.cmd.toNat], 0)
    else if t.kind = 3 then ([255, UInt8.ofNat t.cmd.toNat, UInt8.ofNat t.opt.toNat], 0)
    else if t.kind = 4 then (if 4096 < t.data.length then ([], 2) else (255 :: 250 :: UInt8.ofNat t.opt.toNat :: (esc t.data ++ [255, 240]), 0))
    else (esc t.data, 0))
  else ([], 1)

/-- a row of bytes that was written out, as a string -/
theorem conv_lit (W : World) (l : List UInt8) (hl : l.length ≤ 1000) : (convert 45 9 (.slice (some ⟨W.heap.size, 0, none⟩) l.length l.length)).run Tryd.prog (W.alloc (.cells (bcells l).toArray 5)) = .ok (.string ⟨l.toArray⟩) (W.alloc (.cells (bcells l).toArray 5)) := by
  have h : OwnR (W.alloc (.cells (bcells l).toArray 5)) 0 5 1 (.slice (some ⟨W.heap.size, 0, none⟩) l.length l.length) l.length (bcells l) := by
    refine ⟨by simp [bcells], .inr ⟨W.heap.size, l.length, _, (0, 0), rfl, Nat.zero_le _, (MapKept.heap_alloc W _).1, .inl rfl, Nat.le_refl _, by unfold maxLen; omega, by simp [bcells], by simp [bcells, List.take_of_length_le]⟩⟩
  exact run_str h 0

theorem conv_lit1 (W : World) (l : List UInt8) (hl : l.length ≤ 1000) : (convert 45 9 (.slice (some ⟨W.heap.size, 0, none⟩) l.length l.length)).run Tryd.prog (W.alloc (.cells (bcells l).toArray 5)).drew = .ok (.string ⟨l.toArray⟩) (W.alloc (.cells (bcells l).toArray 5)).drew := by
  have h : OwnR (W.alloc (.cells (bcells l).toArray 5)) 0 5 1 (.slice (some ⟨W.heap.size, 0, none⟩) l.length l.length) l.length (bcells l) := by
    refine ⟨by simp [bcells], .inr ⟨W.heap.size, l.length, _, (0, 0), rfl, Nat.zero_le _, (MapKept.heap_alloc W _).1, .inl rfl, Nat.le_refl _, by unfold maxLen; omega, by simp [bcells], by simp [bcells, List.take_of_length_le]⟩⟩
  exact run_str h 1

set_option maxHeartbeats 2000000 in
theorem writeSub_large (o : UInt8) (dt : List UInt8) (w : World) (h : 4096 < dt.length) (hb : dt.length ≤ 2097152) :
    Calls Tryd.prog 35 #[.int .u8 (o.toNat : Int), .string ⟨dt.toArray⟩] w fun e w' => e = .returned (.tuple #[.string ⟨#[]⟩, .int .i64 2]) ∧ Below w.heap.size w w' := by
  have q : (4096 : Int) < (dt.length : Int) := by omega
  generalize (o.toNat : Int) = n
  go_enter Tryd.func35, Tryd.ntmps35
  go_wp2
  go_ret2
  exact ⟨rfl, Below.refl _ _⟩

set_option maxHeartbeats 2000000 in
set_option maxRecDepth 100000 in
theorem writeSub_some (o : UInt8) (dt : List UInt8) (m : Int) (w : World) (h : ¬ 4096 < dt.length) (hm : w.cell? ⟨0, 0, none⟩ = some (.int .i64 m)) :
    Calls Tryd.prog 35 #[.int .u8 (o.toNat : Int), .string ⟨dt.toArray⟩] w fun e w' => e = .returned (.tuple #[.string ⟨(255 :: 250 :: o :: (esc dt ++ [255, 240])).toArray⟩, .int .i64 0]) ∧ Below w.heap.size w w' := by
  have q : ¬ (4096 : Int) < (dt.length : Int) := by omega
  have h0 : 0 < w.heap.size := World.block_lt_of_cell? _ _ hm
  have k1 : (convert 45 9 (.slice (some ⟨w.heap.size, 0, none⟩) 3 3)).run Tryd.prog (w.alloc (.cells #[.int .u8 255, .int .u8 250, .int .u8 (o.toNat : Int)] 5)) = .ok (.string ⟨#[255, 250, o]⟩) (w.alloc (.cells #[.int .u8 255, .int .u8 250, .int .u8 (o.toNat : Int)] 5)) := conv_lit w [255, 250, o] (by simp)
  have k2 : ∀ x, (convert 45 9 (.slice (some ⟨w.heap.size + 1, 0, none⟩) 2 2)).run Tryd.prog ((w.alloc x).alloc (.cells #[.int .u8 255, .int .u8 240] 5)) = .ok (.string ⟨#[255, 240]⟩) ((w.alloc x).alloc (.cells #[.int .u8 255, .int .u8 240] 5)) := fun x => by
    have h := conv_lit (w.alloc x) [255, 240] (by simp)
    rw [World.size_alloc] at h
    exact h
  have HEs : Hid (∀ o1 o2, Calls Tryd.prog 18 #[.string ⟨dt.toArray⟩] ((w.alloc o1).alloc o2) fun e w' => e = .returned (.string ⟨(esc dt).toArray⟩) ∧ Below ((w.alloc o1).alloc o2).heap.size ((w.alloc o1).alloc o2) w') := fun o1 o2 => Escape_any dt m _ (by omega) (by rw [World.cell?_alloc_past (hn := by simp), World.cell?_alloc_past (hn := h0)]; exact hm)
  have hbo : (⟨#[255, 250, o]⟩ ++ ⟨(esc dt).toArray⟩ ++ ⟨#[255, 240]⟩ : ByteArray) = ⟨(255 :: 250 :: o :: (esc dt ++ [255, 240])).toArray⟩ := by
    apply ByteArray.ext
    simp
  have HBO := Hid.mk' hbo
  have hel : (esc dt).length ≤ 8192 := by have := esc_length dt; omega
  have hz1 : (⟨#[255, 250, o]⟩ : ByteArray).size = 3 := rfl
  clear hbo h
  generalize hs : (⟨#[255, 250, o]⟩ : ByteArray) = S1 at *
  have HS1 := Hid.mk' hs
  clear hs
  generalize (o.toNat : Int) = n at *
  go_enter Tryd.func35, Tryd.ntmps35
  go_wp2_with fail
  refine (HEs.out _ _).mono ?_
  rintro e w2 ⟨rfl, hb2⟩
  have HB2 := Hid.mk' hb2
  clear hb2
  go_wp2
  go_ret2
  rw [← HBO.out]
  refine ⟨rfl, ?_⟩
  exact (((Below.refl _ _).alloc (Nat.le_refl _) _).alloc (by simp) _).trans (HB2.out.mono (by simp; omega))

theorem byte_of (n : Int) (h1 : 0 ≤ n) (h2 : n ≤ 255) : ∃ b : UInt8, n = (b.toNat : Int) ∧ UInt8.ofNat n.toNat = b := by
  refine ⟨UInt8.ofNat n.toNat, ?_, rfl⟩
  rw [UInt8.toNat_ofNat']
  omega

set_option maxHeartbeats 2000000 in
set_option maxRecDepth 100000 in
theorem Write_no (t : Tk) (w : World) (h : writable t = false) :
    Calls Tryd.prog 16 #[t.val] w fun e w' => e = .returned (.tuple #[.string ⟨#[]⟩, .int .i64 1]) ∧ Below w.heap.size w w' := by
  have HW := fun W => isWritable_any t W
  rw [h] at HW
  have HH := Hid.mk' HW
  clear HW h
  obtain ⟨kd, cm, op, dt⟩ := t
  simp only [Tk.val] at *
  go_enter Tryd.func16, Tryd.ntmps16
  go_wp2_with fail
  refine (HH.out _).mono ?_
  rintro e w1 ⟨rfl, hb⟩
  have HB := Hid.mk' hb
  clear hb
  go_wp2
  go_ret2
  exact ⟨rfl, ((Below.refl _ _).alloc (Nat.le_refl _) _).trans (HB.out.mono (by simp))⟩

/-- what is common: behind isWritable the token lies in its own block -/
def Behind (w w1 : World) (t : Tk) : Prop := Below w.heap.size w w1 ∧ w.heap.size < w1.heap.size ∧ w1.cell? ⟨w.heap.size, 0, none⟩ = some (.int .i64 t.kind) ∧ w1.cell? ⟨w.heap.size, 1, none⟩ = some (.int .i64 t.cmd) ∧ w1.cell? ⟨w.heap.size, 2, none⟩ = some (.int .i64 t.opt) ∧ w1.cell? ⟨w.heap.size, 3, none⟩ = some (.string ⟨t.data.toArray⟩)
theorem Behind.of {w w1 : World} {t : Tk} {T : TypeId} (hb : Below (w.alloc (.cells #[.int .i64 t.kind, .int .i64 t.cmd, .int .i64 t.opt, .string ⟨t.data.toArray⟩] T)).heap.size (w.alloc (.cells #[.int .i64 t.kind, .int .i64 t.cmd, .int .i64 t.opt, .string ⟨t.data.toArray⟩] T)) w1) : Behind w w1 t := by
  have hs := hb.size
  simp only [World.size_alloc] at hs
  have hc : ∀ j, w1.cell? ⟨w.heap.size, j, none⟩ = (#[.int .i64 t.kind, .int .i64 t.cmd, .int .i64 t.opt, .string ⟨t.data.toArray⟩] : Array Value)[j]? := fun j => (hb.cell (p := ⟨w.heap.size, j, none⟩) (by simp)).trans (World.cell?_alloc_at _ _ _ _ rfl)
  exact ⟨((Below.refl _ _).alloc (Nat.le_refl _) _).trans (hb.mono (by simp)), by omega, hc 0, hc 1, hc 2, hc 3⟩

set_option maxHeartbeats 4000000 in
set_option maxRecDepth 100000 in
theorem Write_data (dt : List UInt8) (m : Int) (w : World) (hl : dt.length ≤ 2097152) (hm : w.cell? ⟨0, 0, none⟩ = some (.int .i64 m)) :
    Calls Tryd.prog 16 #[(⟨1, 0, 0, dt⟩ : Tk).val] w fun e w' => e = .returned (.tuple #[.string ⟨(esc dt).toArray⟩, .int .i64 0]) ∧ Below w.heap.size w w' := by
  have h0 : 0 < w.heap.size := World.block_lt_of_cell? _ _ hm
  have HW := fun W => isWritable_any ⟨1, 0, 0, dt⟩ W
  have hw : writable ⟨1, 0, 0, dt⟩ = true := by simp [writable, Tk.eq]
  rw [hw] at HW
  have HH := Hid.mk' HW
  clear HW hw
  simp only [Tk.val] at *
  go_enter Tryd.func16, Tryd.ntmps16
  go_wp2_with fail
  refine (HH.out _).mono ?_
  rintro e w1 ⟨rfl, hb⟩
  obtain ⟨hbel, hlt, t0, t1, t2, t3⟩ := Behind.of (t := ⟨1, 0, 0, dt⟩) hb
  simp only at t0 t1 t2 t3
  have HB := Hid.mk' hbel
  have HEs : Hid (∀ q, Calls Tryd.prog 18 #[.string ⟨dt.toArray⟩] (w1.drewN q) fun e w' => e = .returned (.string ⟨(esc dt).toArray⟩) ∧ Below (w1.drewN q).heap.size (w1.drewN q) w') := fun q => Escape_any dt m _ hl ((hbel.cell (p := ⟨0, 0, none⟩) h0).trans hm)
  clear hb hbel
  go_wp2_with fail
  go_region
  all_goals
    go_wp2_with fail
    refine (HEs.out 1).mono ?_
    rintro e w2 ⟨rfl, hb2⟩
    have HB2 := Hid.mk' hb2
    clear hb2
    go_wp2
    go_ret2
    have hs := HB.out.size
    exact ⟨rfl, HB.out.drew.trans (HB2.out.mono (by simp; omega))⟩

set_option maxHeartbeats 4000000 in
set_option maxRecDepth 100000 in
theorem Write_cmd (b : UInt8) (w : World) (h1 : 240 ≤ b.toNat) (h2 : b.toNat < 250) :
    Calls Tryd.prog 16 #[(⟨2, b.toNat, 0, []⟩ : Tk).val] w fun e w' => e = .returned (.tuple #[.string ⟨[255, b].toArray⟩, .int .i64 0]) ∧ Below w.heap.size w w' := by
  have HW := fun W => isWritable_any ⟨2, b.toNat, 0, []⟩ W
  have hw : writable ⟨2, b.toNat, 0, []⟩ = true := by simp [writable, Tk.eq]; omega
  rw [hw] at HW
  have HH := Hid.mk' HW
  have hk : Hid (∀ W : World, (convert 45 9 (.slice (some ⟨W.heap.size, 0, none⟩) 2 2)).run Tryd.prog (W.alloc (.cells #[.int .u8 255, .int .u8 (b.toNat : Int)] 5)).drew = .ok (.string ⟨#[255, b]⟩) (W.alloc (.cells #[.int .u8 255, .int .u8 (b.toNat : Int)] 5)).drew) := fun W => conv_lit1 W [255, b] (by simp)
  have q1 : (240 : Int) ≤ (b.toNat : Int) := by omega
  have q2 : (b.toNat : Int) < 250 := by omega
  clear HW hw h1 h2
  show Calls Tryd.prog 16 #[(⟨2, b.toNat, 0, []⟩ : Tk).val] w fun e w' => e = .returned (.tuple #[.string ⟨#[255, b]⟩, .int .i64 0]) ∧ Below w.heap.size w w'
  simp only [Tk.val] at *
  generalize (⟨#[255, b]⟩ : ByteArray) = S at *
  generalize (b.toNat : Int) = n at *
  go_enter Tryd.func16, Tryd.ntmps16
  go_wp2_with fail
  refine (HH.out _).mono ?_
  rintro e w1 ⟨rfl, hb⟩
  obtain ⟨hbel, hlt, t0, t1, t2, t3⟩ := Behind.of (t := ⟨2, n, 0, []⟩) hb
  simp only at t0 t1 t2 t3
  have HB := Hid.mk' hbel
  have hk1 := hk.out w1
  clear hb hbel
  go_wp2_with fail
  go_region
  all_goals
    go_wp2
    go_ret2
    have hs := HB.out.size
    exact ⟨rfl, (HB.out.alloc (by omega) _).drew⟩

set_option maxHeartbeats 4000000 in
set_option maxRecDepth 100000 in
theorem Write_neg (b o : UInt8) (w : World) (h1 : 251 ≤ b.toNat) (h2 : b.toNat ≤ 254) :
    Calls Tryd.prog 16 #[(⟨3, b.toNat, o.toNat, []⟩ : Tk).val] w fun e w' => e = .returned (.tuple #[.string ⟨[255, b, o].toArray⟩, .int .i64 0]) ∧ Below w.heap.size w w' := by
  have HW := fun W => isWritable_any ⟨3, b.toNat, o.toNat, []⟩ W
  have ho := o.toNat_lt
  have hw : writable ⟨3, b.toNat, o.toNat, []⟩ = true := by simp [writable, Tk.eq]; omega
  rw [hw] at HW
  have HH := Hid.mk' HW
  have hk : Hid (∀ W : World, (convert 45 9 (.slice (some ⟨W.heap.size, 0, none⟩) 3 3)).run Tryd.prog (W.alloc (.cells #[.int .u8 255, .int .u8 (b.toNat : Int), .int .u8 (o.toNat : Int)] 5)).drew = .ok (.string ⟨#[255, b, o]⟩) (W.alloc (.cells #[.int .u8 255, .int .u8 (b.toNat : Int), .int .u8 (o.toNat : Int)] 5)).drew) := fun W => conv_lit1 W [255, b, o] (by simp)
  have q1 : (251 : Int) ≤ (b.toNat : Int) := by omega
  have q2 : (b.toNat : Int) ≤ 254 := by omega
  have q3 : (0 : Int) ≤ (o.toNat : Int) := by omega
  have q4 : (o.toNat : Int) ≤ 255 := by omega
  clear HW hw h1 h2 ho
  show Calls Tryd.prog 16 #[(⟨3, b.toNat, o.toNat, []⟩ : Tk).val] w fun e w' => e = .returned (.tuple #[.string ⟨#[255, b, o]⟩, .int .i64 0]) ∧ Below w.heap.size w w'
  simp only [Tk.val] at *
  generalize (⟨#[255, b, o]⟩ : ByteArray) = S at *
  generalize (b.toNat : Int) = n at *
  generalize (o.toNat : Int) = n2 at *
  go_enter Tryd.func16, Tryd.ntmps16
  go_wp2_with fail
  refine (HH.out _).mono ?_
  rintro e w1 ⟨rfl, hb⟩
  obtain ⟨hbel, hlt, t0, t1, t2, t3⟩ := Behind.of (t := ⟨3, n, n2, []⟩) hb
  simp only at t0 t1 t2 t3
  have HB := Hid.mk' hbel
  have hk1 := hk.out w1
  clear hb hbel
  go_wp2_with fail
  go_region
  all_goals
    go_wp2
    go_ret2
    have hs := HB.out.size
    exact ⟨rfl, (HB.out.alloc (by omega) _).drew⟩

set_option maxHeartbeats 4000000 in
set_option maxRecDepth 100000 in
theorem Write_sub (o : UInt8) (dt : List UInt8) (m : Int) (w : World) (hl : dt.length ≤ 2097152) (hm : w.cell? ⟨0, 0, none⟩ = some (.int .i64 m)) :
    Calls Tryd.prog 16 #[(⟨4, 0, o.toNat, dt⟩ : Tk).val] w fun e w' => e = .returned (.tuple #[.string ⟨(if 4096 < dt.length then [] else 255 :: 250 :: o :: (esc dt ++ [255, 240])).toArray⟩, .int .i64 (if 4096 < dt.length then 2 else 0)]) ∧ Below w.heap.size w w' := by
  have h0 : 0 < w.heap.size := World.block_lt_of_cell? _ _ hm
  have HW := fun W => isWritable_any ⟨4, 0, o.toNat, dt⟩ W
  have ho := o.toNat_lt
  have hw : writable ⟨4, 0, o.toNat, dt⟩ = true := by simp [writable, Tk.eq]; omega
  rw [hw] at HW
  have HH := Hid.mk' HW
  have HS : Hid (∀ W : World, W.cell? ⟨0, 0, none⟩ = some (.int .i64 m) → Calls Tryd.prog 35 #[.int .u8 (o.toNat : Int), .string ⟨dt.toArray⟩] W fun e w' => e = .returned (.tuple #[.string ⟨(if 4096 < dt.length then [] else 255 :: 250 :: o :: (esc dt ++ [255, 240])).toArray⟩, .int .i64 (if 4096 < dt.length then 2 else 0)]) ∧ Below W.heap.size W w') := fun W hW => by
    by_cases h : 4096 < dt.length
    · rw [if_pos h, if_pos h]; exact writeSub_large o dt W h hl
    · rw [if_neg h, if_neg h]; exact writeSub_some o dt m W h hW
  have q3 : (0 : Int) ≤ (o.toNat : Int) := by omega
  have q4 : (o.toNat : Int) ≤ 255 := by omega
  clear HW hw ho
  generalize (if 4096 < dt.length then [] else 255 :: 250 :: o :: (esc dt ++ [255, 240])) = S at *
  generalize (if 4096 < dt.length then (2 : Int) else 0) = E at *
  simp only [Tk.val] at *
  generalize (o.toNat : Int) = n at *
  go_enter Tryd.func16, Tryd.ntmps16
  go_wp2_with fail
  refine (HH.out _).mono ?_
  rintro e w1 ⟨rfl, hb⟩
  obtain ⟨hbel, hlt, t0, t1, t2, t3⟩ := Behind.of (t := ⟨4, 0, n, dt⟩) hb
  simp only at t0 t1 t2 t3
  have HB := Hid.mk' hbel
  have HS1 := Hid.mk' (HS.out w1.drew ((hbel.cell (p := ⟨0, 0, none⟩) h0).trans hm))
  clear hb hbel
  go_wp2_with fail
  go_region
  all_goals
    go_wp2_with fail
    refine HS1.out.mono ?_
    rintro e w2 ⟨rfl, hb2⟩
    have HB2 := Hid.mk' hb2
    clear hb2
    go_wp2
    go_ret2
    have hs := HB.out.size
    exact ⟨rfl, HB.out.drew.trans (HB2.out.mono (by simp; omega))⟩

theorem Write_any (t : Tk) (m : Int) (w : World) (hl : t.data.length ≤ 2097152) (hm : w.cell? ⟨0, 0, none⟩ = some (.int .i64 m)) :
    Calls Tryd.prog 16 #[t.val] w fun e w' => e = .returned (.tuple #[.string ⟨(text t).1.toArray⟩, .int .i64 (text t).2]) ∧ Below w.heap.size w w' := by
  cases hw : writable t with
  | false =>
    have e : text t = ([], 1) := by rw [text, if_neg (by simp [hw])]
    rw [e]
    exact Write_no t w hw
  | true =>
    obtain ⟨kd, cm, op, dt⟩ := t
    have hw' := hw
    unfold writable at hw'
    simp only at hw' hl
    by_cases h1 : kd = 1
    · subst h1
      simp [Tk.eq] at hw'
      obtain ⟨rfl, rfl⟩ := hw'
      have e : text ⟨1, 0, 0, dt⟩ = (esc dt, 0) := by rw [text, if_pos hw]; simp
      rw [e]
      exact Write_data dt m w hl hm
    rw [if_neg h1] at hw'
    by_cases h2 : kd = 2
    · subst h2
      simp [Tk.eq] at hw'
      obtain ⟨⟨q1, q2⟩, rfl, rfl⟩ := hw'
      obtain ⟨b, rfl, hb⟩ := byte_of cm (by omega) (by omega)
      have e : text ⟨2, b.toNat, 0, []⟩ = ([255, b], 0) := by rw [text, if_pos hw]; simp
      rw [e]
      exact Write_cmd b w (by omega) (by omega)
    rw [if_neg h2] at hw'
    by_cases h3 : kd = 3
    · subst h3
      simp [Tk.eq] at hw'
      obtain ⟨⟨q1, q2⟩, ⟨q3, q4⟩, rfl⟩ := hw'
      obtain ⟨b, rfl, hb⟩ := byte_of cm (by omega) (by omega)
      obtain ⟨o, rfl, ho⟩ := byte_of op (by omega) (by omega)
      have e : text ⟨3, b.toNat, o.toNat, []⟩ = ([255, b, o], 0) := by rw [text, if_pos hw]; simp
      rw [e]
      exact Write_neg b o w (by omega) (by omega)
    rw [if_neg h3] at hw'
    by_cases h4 : kd = 4
    · subst h4
      simp [Tk.eq] at hw'
      obtain ⟨⟨q3, q4⟩, rfl⟩ := hw'
      obtain ⟨o, rfl, ho⟩ := byte_of op (by omega) (by omega)
      have e : text ⟨4, 0, o.toNat, dt⟩ = ((if 4096 < dt.length then [] else 255 :: 250 :: o :: (esc dt ++ [255, 240])), (if 4096 < dt.length then 2 else 0)) := by
        rw [text, if_pos hw]
        by_cases h : 4096 < dt.length <;> simp [h]
      rw [e]
      exact Write_sub o dt m w hl hm
    rw [if_neg h4] at hw'
    cases hw'
end Go.Proofs.YtmcoliblkkploaaDoor
