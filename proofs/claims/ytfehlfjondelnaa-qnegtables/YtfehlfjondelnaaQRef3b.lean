/-
  Contract of the document's side: farref.Taken: whatever the cells of the Neg and of the token.
-/
import Derived.Test.YtfehlfjondelnaaQRef3
namespace Go.Proofs.Ytfehlfjondelnaa.Q
open Go.RowKit Go.Proofs.Ytfehlfjondelnaa

attribute [local go_sem ↓] exec_load32 exec_store32 exec_load30

theorem wrap_small {s : Int} (h0 : 0 ≤ s) (h1 : s < 256) : IntKind.i64.wrap s = s := by
  simp [IntKind.wrap, IntKind.bits, IntKind.signed]
  omega

set_option maxHeartbeats 8000000 in
theorem Taken_ok (l : List Value) (hl : NegL l) (hr : right l = true) (us on : Bool) (k : Nat) (hk : k < 256) (d : ByteArray) (hd : d.toList.isEmpty = true) (w : World) (r1 r2 : Int) (r3 : Bool) (hh : hear (st l (place us k)) on (may l us k) = (r1, r2, r3)) :
    Calls Try.prog 14 #[.agg l.toArray, .agg (tok 3 (cmdI us on) (k : Int) d).toArray] w fun e w' => e = .returned (RNeg (putSt l us k r1) (word us r2 k) 0) ∧ Below w.heap.size w w' := by
  obtain ⟨z, hz, hzw⟩ := zero32
  have HZ := Hid.mk' hzw
  have HC := Hid.mk' (NegRight_any l hl)
  rw [hr] at HC
  have HBC := Hid.mk' (Between_any (cmdI us on) 251 254)
  have HBO := Hid.mk' (Between_any (k : Int) 0 255)
  rw [show btw (cmdI us on) 251 254 = true by cases us <;> cases on <;> rfl] at HBC
  rw [show btw (k : Int) 0 255 = true from decide_eq_true ⟨by omega, by omega⟩] at HBO
  have hb := hl.byte (place_lt us hk)
  have hbd := hear_bd on (may l us k) hb.2.1 hb.2.2
  have hsy := hear_say (st l (place us k)) on (may l us k)
  rw [hh] at hbd hsy
  obtain ⟨x, hx, hg, he⟩ := setOf_get hl us (j := k / 64) (by omega)
  have HMA := Hid.mk' (May_any (setOf l us) k x hk hx hg)
  have hmay : x.testBit (k % 64) = may l us k := by unfold may; rw [he]
  rw [hmay] at HMA
  have HHE := Hid.mk' (Heard_any (st l (place us k)) on (may l us k))
  rw [hh] at HHE
  unfold RHear at HHE
  have HSA := Hid.mk' (Spoken_any us r2 k hsy hk)
  have HP := Hid.mk' (hl.put us hk hbd.1 hbd.2)
  have HS : Hid ((Try.prog.info? 32).map (·.size) = some l.length) := by rw [hl.len]; exact size32
  have HS' : Hid ((Try.prog.info? 32).map (·.size) = some (putSt l us k r1).length) := by rw [HP.out.len]; exact size32
  have HLN := Hid.mk' hl.len
  have HZN := Hid.mk' hz.len
  have HV : Hid (l.set (place us k) (.int .u8 r1) = putSt l us k r1) := rfl
  have HST := Hid.mk' hb.1
  have HX : Hid ((l.drop (if us then 512 else 516)).take 4 = setOf l us) := rfl
  have s0 := hb.2.1
  have s1 := hb.2.2
  have hwr := wrap_small s0 s1
  generalize st l (place us k) = s at *
  generalize may l us k = m at *
  generalize putSt l us k r1 = l' at *
  generalize word us r2 k = wd at *
  generalize setOf l us = X at *
  obtain ⟨d0, d1⟩ := hbd
  have d2 : r1 ≤ 255 := by omega
  clear hzw hl hz hr hb hh hg he hmay hx hsy
  have k0 : (0 : Int) ≤ (k : Int) := by omega
  have k1 : (k : Int) < 256 := by omega
  cases us with
  | true =>
    rw [show place true k = k from rfl] at HST HV
    cases on
    · go_enter Try.func14, Try.ntmps14
      go_wp2_with (refine wpList_box l 32 rfl _ rfl rfl ?_)
      intro w1 m1
      go_wp2_with (refine wpList_box (tok 3 (254) k d) 34 rfl _ rfl rfl ?_)
      intro w2 m2
      go_wp2_with (refine wpList_alloc z 32 HZ.out rfl rfl ?_)
      intro w3 m3
      have z1 := m1.lt
      have z2 := m2.lt
      have z3 := m3.lt
      have b3 := m3.keep (m2.keep m1.box)
      have t3 := m3.keep m2.box
      have HB3 := Hid.mk' (m3.below w.heap.size w (by omega) (m2.below _ _ (by omega) (m1.below _ _ (Nat.le_refl _) (Below.refl _ w))))
      go_wp2_with (refine wpList_load_box 32 32 l w.heap.size _ Try.underlying32 rfl HS.out b3 rfl _ rfl rfl ?_)
      refine (HC.out _).mono ?_
      rintro e w4 ⟨rfl, h4⟩
      have b4 := b3.later h4
      have t4 := t3.later h4
      have r4 := m3.box.later h4
      have HB4 := Hid.mk' (HB3.out.trans (h4.mono (by omega)))
      have z4 := h4.size
      clear b3 h4 m1 m2 m3 t3
      have hle : w.heap.size ≤ w2.heap.size := by omega
      have q1 : w.heap.size < w2.heap.size := by omega
      have q2 : w1.heap.size < w2.heap.size := by omega
      have q3 : w.heap.size ≠ w1.heap.size := by omega
      have q4 : w2.heap.size ≠ w.heap.size := by omega
      have q5 : w.heap.size ≤ w4.heap.size := by omega
      have c0 := t4.cell (j := 0) (v := .int .i64 3) rfl
      have c1 := t4.cell (j := 1) (v := .int .i64 (254)) rfl
      have c2 := t4.cell (j := 2) (v := .int .i64 k) rfl
      have c3 := t4.cell (j := 3) (v := .string d) rfl
      clear z1 z2 z3 z4
      go_wp2_with fail
      refine (HBC.out _).mono ?_
      rintro e w5 ⟨rfl, rfl⟩
      go_wp2_with fail
      refine (HBO.out _).mono ?_
      rintro e w6 ⟨rfl, rfl⟩
      have hC2 : ∀ w', Below w6.heap.size w6 w' → w'.cell? ⟨w1.heap.size, 2, none⟩ = some (.int .i64 (k : Int)) := fun w' h => (t4.later h).cell rfl
      have hC1 : ∀ w', Below w6.heap.size w6 w' → w'.cell? ⟨w.heap.size, k, none⟩ = some (.int .u8 s) := fun w' h => (b4.later h).cell HST.out
      have hL : ∀ w', Below w6.heap.size w6 w' → Lies w' (.pointer (some ⟨w.heap.size, 512, none⟩)) 4 := fun w' h => (b4.later h).lies (by rw [HLN.out]; omega)
      have hR : ∀ w', Below w6.heap.size w6 w' → rowAt w' (.pointer (some ⟨w.heap.size, 512, none⟩)) 4 = X := fun w' h => ((b4.later h).row (by rw [HLN.out]; omega)).trans HX.out
      have H8 : Hid (Below w6.heap.size w6 w6.drew) := (Below.refl _ _).drew
      go_wp2_with fail
      go_region_held3 (fun w' => Below w6.heap.size w6 w') (first | assumption | exact H8.out | exact chain8 (by assumption) hb) (first | (go_at_call 31; refine (HMA.out _).mono ?_; rintro e wx ⟨rfl, hb⟩) | (go_at_call 10; refine (HHE.out _).mono ?_; rintro e wy ⟨rfl, hb⟩))
      have h8 : Below w6.heap.size w6 wy := by assumption
      have b8 := b4.later h8
      have t8 := t4.later h8
      have r8 := r4.later h8
      have HB8 := Hid.mk' (HB4.out.trans (h8.mono q5))
      clear hC2 hC1 hL hR H8 c0 c1 c2 c3 h8 hb b4 t4 r4
      have hc8 := b8.cell HST.out
      have hf8 := b8.frozen
      have hk8 := t8.cell (j := 2) (v := .int .i64 k) rfl
      have S9 := Stored.cell b8 (k) (.int .u8 r1)
      rw [HV.out] at S9
      have b9 := Hid.mk' S9.box
      have t9 := Hid.mk' (S9.keep t8 (Ne.symm q3))
      have r9 := Hid.mk' (S9.keep r8 q4)
      have HB9 := Hid.mk' (S9.below _ _ (Nat.le_refl _) HB8.out)
      clear S9 b8 t8 r8
      go_wp2_with fail
      generalize wy.setCell ⟨w.heap.size, k, none⟩ (.int .u8 r1) = wq at *
      clear hc8 hf8 hk8
      have hL1 : ∀ w', Below w2.heap.size wq w' → Lies w' (.pointer (some ⟨w.heap.size, 0, none⟩)) 520 := fun w' h => (b9.out.below h q1).lies0 HP.out.len
      have hR1 : ∀ w', Below w2.heap.size wq w' → rowAt w' (.pointer (some ⟨w.heap.size, 0, none⟩)) 520 = l' := fun w' h => (b9.out.below h q1).row0 HP.out.len
      have hC2 : ∀ w', Below w2.heap.size wq w' → w'.cell? ⟨w1.heap.size, 2, none⟩ = some (.int .i64 (k : Int)) := fun w' h => (t9.out.below h q2).cell rfl
      have hL3 : ∀ w', HasBox w' w2.heap.size 32 520 → Lies w' (.pointer (some ⟨w2.heap.size, 0, none⟩)) 520 := fun w' h => h.lies
      have hH := HP.out.holds
      have H9 : Hid (Below w2.heap.size wq wq.drew ∧ HasBox wq.drew w2.heap.size 32 520) := ⟨(Below.refl _ _).drew, z, r9.out.drew, HZN.out⟩
      go_region_held3 (fun w' => Below w2.heap.size wq w' ∧ HasBox w' w2.heap.size 32 520) (first | assumption | exact H9.out | (refine kept9s ?_ HP.out.len; assumption) | (refine kept9 ?_ hb; assumption)) (first | (go_at_call 32; refine (HSA.out _).mono ?_; rintro e wz ⟨rfl, hb⟩; have hq : HasBox wz w2.heap.size 32 520 := HasBox.later (And.right ‹Below w2.heap.size wq _ ∧ HasBox _ w2.heap.size 32 520›) hb))
      have h9 := And.left ‹Below w2.heap.size wq _ ∧ HasBox _ w2.heap.size 32 520›
      have s9 := hq.put l' HP.out.len
      clear hL1 hR1 hC2 hL3 hH H9
      go_wp2
      exact ret_box3 Try.results14 32 l' w2.heap.size _ Try.underlying32 rfl HS'.out _ _ rfl rfl rfl s9.box rfl ⟨rfl, HB9.out.trans (h9.mono hle)⟩
    · go_enter Try.func14, Try.ntmps14
      go_wp2_with (refine wpList_box l 32 rfl _ rfl rfl ?_)
      intro w1 m1
      go_wp2_with (refine wpList_box (tok 3 (253) k d) 34 rfl _ rfl rfl ?_)
      intro w2 m2
      go_wp2_with (refine wpList_alloc z 32 HZ.out rfl rfl ?_)
      intro w3 m3
      have z1 := m1.lt
      have z2 := m2.lt
      have z3 := m3.lt
      have b3 := m3.keep (m2.keep m1.box)
      have t3 := m3.keep m2.box
      have HB3 := Hid.mk' (m3.below w.heap.size w (by omega) (m2.below _ _ (by omega) (m1.below _ _ (Nat.le_refl _) (Below.refl _ w))))
      go_wp2_with (refine wpList_load_box 32 32 l w.heap.size _ Try.underlying32 rfl HS.out b3 rfl _ rfl rfl ?_)
      refine (HC.out _).mono ?_
      rintro e w4 ⟨rfl, h4⟩
      have b4 := b3.later h4
      have t4 := t3.later h4
      have r4 := m3.box.later h4
      have HB4 := Hid.mk' (HB3.out.trans (h4.mono (by omega)))
      have z4 := h4.size
      clear b3 h4 m1 m2 m3 t3
      have hle : w.heap.size ≤ w2.heap.size := by omega
      have q1 : w.heap.size < w2.heap.size := by omega
      have q2 : w1.heap.size < w2.heap.size := by omega
      have q3 : w.heap.size ≠ w1.heap.size := by omega
      have q4 : w2.heap.size ≠ w.heap.size := by omega
      have q5 : w.heap.size ≤ w4.heap.size := by omega
      have c0 := t4.cell (j := 0) (v := .int .i64 3) rfl
      have c1 := t4.cell (j := 1) (v := .int .i64 (253)) rfl
      have c2 := t4.cell (j := 2) (v := .int .i64 k) rfl
      have c3 := t4.cell (j := 3) (v := .string d) rfl
      clear z1 z2 z3 z4
      go_wp2_with fail
      refine (HBC.out _).mono ?_
      rintro e w5 ⟨rfl, rfl⟩
      go_wp2_with fail
      refine (HBO.out _).mono ?_
      rintro e w6 ⟨rfl, rfl⟩
      have hC2 : ∀ w', Below w6.heap.size w6 w' → w'.cell? ⟨w1.heap.size, 2, none⟩ = some (.int .i64 (k : Int)) := fun w' h => (t4.later h).cell rfl
      have hC1 : ∀ w', Below w6.heap.size w6 w' → w'.cell? ⟨w.heap.size, k, none⟩ = some (.int .u8 s) := fun w' h => (b4.later h).cell HST.out
      have hL : ∀ w', Below w6.heap.size w6 w' → Lies w' (.pointer (some ⟨w.heap.size, 512, none⟩)) 4 := fun w' h => (b4.later h).lies (by rw [HLN.out]; omega)
      have hR : ∀ w', Below w6.heap.size w6 w' → rowAt w' (.pointer (some ⟨w.heap.size, 512, none⟩)) 4 = X := fun w' h => ((b4.later h).row (by rw [HLN.out]; omega)).trans HX.out
      have H8 : Hid (Below w6.heap.size w6 w6.drew) := (Below.refl _ _).drew
      go_wp2_with fail
      go_region_held3 (fun w' => Below w6.heap.size w6 w') (first | assumption | exact H8.out | exact chain8 (by assumption) hb) (first | (go_at_call 31; refine (HMA.out _).mono ?_; rintro e wx ⟨rfl, hb⟩) | (go_at_call 10; refine (HHE.out _).mono ?_; rintro e wy ⟨rfl, hb⟩))
      have h8 : Below w6.heap.size w6 wy := by assumption
      have b8 := b4.later h8
      have t8 := t4.later h8
      have r8 := r4.later h8
      have HB8 := Hid.mk' (HB4.out.trans (h8.mono q5))
      clear hC2 hC1 hL hR H8 c0 c1 c2 c3 h8 hb b4 t4 r4
      have hc8 := b8.cell HST.out
      have hf8 := b8.frozen
      have hk8 := t8.cell (j := 2) (v := .int .i64 k) rfl
      have S9 := Stored.cell b8 (k) (.int .u8 r1)
      rw [HV.out] at S9
      have b9 := Hid.mk' S9.box
      have t9 := Hid.mk' (S9.keep t8 (Ne.symm q3))
      have r9 := Hid.mk' (S9.keep r8 q4)
      have HB9 := Hid.mk' (S9.below _ _ (Nat.le_refl _) HB8.out)
      clear S9 b8 t8 r8
      go_wp2_with fail
      generalize wy.setCell ⟨w.heap.size, k, none⟩ (.int .u8 r1) = wq at *
      clear hc8 hf8 hk8
      have hL1 : ∀ w', Below w2.heap.size wq w' → Lies w' (.pointer (some ⟨w.heap.size, 0, none⟩)) 520 := fun w' h => (b9.out.below h q1).lies0 HP.out.len
      have hR1 : ∀ w', Below w2.heap.size wq w' → rowAt w' (.pointer (some ⟨w.heap.size, 0, none⟩)) 520 = l' := fun w' h => (b9.out.below h q1).row0 HP.out.len
      have hC2 : ∀ w', Below w2.heap.size wq w' → w'.cell? ⟨w1.heap.size, 2, none⟩ = some (.int .i64 (k : Int)) := fun w' h => (t9.out.below h q2).cell rfl
      have hL3 : ∀ w', HasBox w' w2.heap.size 32 520 → Lies w' (.pointer (some ⟨w2.heap.size, 0, none⟩)) 520 := fun w' h => h.lies
      have hH := HP.out.holds
      have H9 : Hid (Below w2.heap.size wq wq.drew ∧ HasBox wq.drew w2.heap.size 32 520) := ⟨(Below.refl _ _).drew, z, r9.out.drew, HZN.out⟩
      go_region_held3 (fun w' => Below w2.heap.size wq w' ∧ HasBox w' w2.heap.size 32 520) (first | assumption | exact H9.out | (refine kept9s ?_ HP.out.len; assumption) | (refine kept9 ?_ hb; assumption)) (first | (go_at_call 32; refine (HSA.out _).mono ?_; rintro e wz ⟨rfl, hb⟩; have hq : HasBox wz w2.heap.size 32 520 := HasBox.later (And.right ‹Below w2.heap.size wq _ ∧ HasBox _ w2.heap.size 32 520›) hb))
      have h9 := And.left ‹Below w2.heap.size wq _ ∧ HasBox _ w2.heap.size 32 520›
      have s9 := hq.put l' HP.out.len
      clear hL1 hR1 hC2 hL3 hH H9
      go_wp2
      exact ret_box3 Try.results14 32 l' w2.heap.size _ Try.underlying32 rfl HS'.out _ _ rfl rfl rfl s9.box rfl ⟨rfl, HB9.out.trans (h9.mono hle)⟩
  | false =>
    rw [show place false k = 256 + k from rfl] at HST HV
    cases on
    · go_enter Try.func14, Try.ntmps14
      go_wp2_with (refine wpList_box l 32 rfl _ rfl rfl ?_)
      intro w1 m1
      go_wp2_with (refine wpList_box (tok 3 (252) k d) 34 rfl _ rfl rfl ?_)
      intro w2 m2
      go_wp2_with (refine wpList_alloc z 32 HZ.out rfl rfl ?_)
      intro w3 m3
      have z1 := m1.lt
      have z2 := m2.lt
      have z3 := m3.lt
      have b3 := m3.keep (m2.keep m1.box)
      have t3 := m3.keep m2.box
      have HB3 := Hid.mk' (m3.below w.heap.size w (by omega) (m2.below _ _ (by omega) (m1.below _ _ (Nat.le_refl _) (Below.refl _ w))))
      go_wp2_with (refine wpList_load_box 32 32 l w.heap.size _ Try.underlying32 rfl HS.out b3 rfl _ rfl rfl ?_)
      refine (HC.out _).mono ?_
      rintro e w4 ⟨rfl, h4⟩
      have b4 := b3.later h4
      have t4 := t3.later h4
      have r4 := m3.box.later h4
      have HB4 := Hid.mk' (HB3.out.trans (h4.mono (by omega)))
      have z4 := h4.size
      clear b3 h4 m1 m2 m3 t3
      have hle : w.heap.size ≤ w2.heap.size := by omega
      have q1 : w.heap.size < w2.heap.size := by omega
      have q2 : w1.heap.size < w2.heap.size := by omega
      have q3 : w.heap.size ≠ w1.heap.size := by omega
      have q4 : w2.heap.size ≠ w.heap.size := by omega
      have q5 : w.heap.size ≤ w4.heap.size := by omega
      have c0 := t4.cell (j := 0) (v := .int .i64 3) rfl
      have c1 := t4.cell (j := 1) (v := .int .i64 (252)) rfl
      have c2 := t4.cell (j := 2) (v := .int .i64 k) rfl
      have c3 := t4.cell (j := 3) (v := .string d) rfl
      clear z1 z2 z3 z4
      go_wp2_with fail
      refine (HBC.out _).mono ?_
      rintro e w5 ⟨rfl, rfl⟩
      go_wp2_with fail
      refine (HBO.out _).mono ?_
      rintro e w6 ⟨rfl, rfl⟩
      have hC2 : ∀ w', Below w6.heap.size w6 w' → w'.cell? ⟨w1.heap.size, 2, none⟩ = some (.int .i64 (k : Int)) := fun w' h => (t4.later h).cell rfl
      have hC1 : ∀ w', Below w6.heap.size w6 w' → w'.cell? ⟨w.heap.size, 256 + k, none⟩ = some (.int .u8 s) := fun w' h => (b4.later h).cell HST.out
      have hL : ∀ w', Below w6.heap.size w6 w' → Lies w' (.pointer (some ⟨w.heap.size, 516, none⟩)) 4 := fun w' h => (b4.later h).lies (by rw [HLN.out]; omega)
      have hR : ∀ w', Below w6.heap.size w6 w' → rowAt w' (.pointer (some ⟨w.heap.size, 516, none⟩)) 4 = X := fun w' h => ((b4.later h).row (by rw [HLN.out]; omega)).trans HX.out
      have H8 : Hid (Below w6.heap.size w6 w6.drew) := (Below.refl _ _).drew
      go_wp2_with fail
      go_region_held3 (fun w' => Below w6.heap.size w6 w') (first | assumption | exact H8.out | exact chain8 (by assumption) hb) (first | (go_at_call 31; refine (HMA.out _).mono ?_; rintro e wx ⟨rfl, hb⟩) | (go_at_call 10; refine (HHE.out _).mono ?_; rintro e wy ⟨rfl, hb⟩))
      have h8 : Below w6.heap.size w6 wy := by assumption
      have b8 := b4.later h8
      have t8 := t4.later h8
      have r8 := r4.later h8
      have HB8 := Hid.mk' (HB4.out.trans (h8.mono q5))
      clear hC2 hC1 hL hR H8 c0 c1 c2 c3 h8 hb b4 t4 r4
      have hc8 := b8.cell HST.out
      have hf8 := b8.frozen
      have hk8 := t8.cell (j := 2) (v := .int .i64 k) rfl
      have S9 := Stored.cell b8 (256 + k) (.int .u8 r1)
      rw [HV.out] at S9
      have b9 := Hid.mk' S9.box
      have t9 := Hid.mk' (S9.keep t8 (Ne.symm q3))
      have r9 := Hid.mk' (S9.keep r8 q4)
      have HB9 := Hid.mk' (S9.below _ _ (Nat.le_refl _) HB8.out)
      clear S9 b8 t8 r8
      go_wp2_with fail
      generalize wy.setCell ⟨w.heap.size, 256 + k, none⟩ (.int .u8 r1) = wq at *
      clear hc8 hf8 hk8
      have hL1 : ∀ w', Below w2.heap.size wq w' → Lies w' (.pointer (some ⟨w.heap.size, 0, none⟩)) 520 := fun w' h => (b9.out.below h q1).lies0 HP.out.len
      have hR1 : ∀ w', Below w2.heap.size wq w' → rowAt w' (.pointer (some ⟨w.heap.size, 0, none⟩)) 520 = l' := fun w' h => (b9.out.below h q1).row0 HP.out.len
      have hC2 : ∀ w', Below w2.heap.size wq w' → w'.cell? ⟨w1.heap.size, 2, none⟩ = some (.int .i64 (k : Int)) := fun w' h => (t9.out.below h q2).cell rfl
      have hL3 : ∀ w', HasBox w' w2.heap.size 32 520 → Lies w' (.pointer (some ⟨w2.heap.size, 0, none⟩)) 520 := fun w' h => h.lies
      have hH := HP.out.holds
      have H9 : Hid (Below w2.heap.size wq wq.drew ∧ HasBox wq.drew w2.heap.size 32 520) := ⟨(Below.refl _ _).drew, z, r9.out.drew, HZN.out⟩
      go_region_held3 (fun w' => Below w2.heap.size wq w' ∧ HasBox w' w2.heap.size 32 520) (first | assumption | exact H9.out | (refine kept9s ?_ HP.out.len; assumption) | (refine kept9 ?_ hb; assumption)) (first | (go_at_call 32; refine (HSA.out _).mono ?_; rintro e wz ⟨rfl, hb⟩; have hq : HasBox wz w2.heap.size 32 520 := HasBox.later (And.right ‹Below w2.heap.size wq _ ∧ HasBox _ w2.heap.size 32 520›) hb))
      have h9 := And.left ‹Below w2.heap.size wq _ ∧ HasBox _ w2.heap.size 32 520›
      have s9 := hq.put l' HP.out.len
      clear hL1 hR1 hC2 hL3 hH H9
      go_wp2
      exact ret_box3 Try.results14 32 l' w2.heap.size _ Try.underlying32 rfl HS'.out _ _ rfl rfl rfl s9.box rfl ⟨rfl, HB9.out.trans (h9.mono hle)⟩
    · go_enter Try.func14, Try.ntmps14
      go_wp2_with (refine wpList_box l 32 rfl _ rfl rfl ?_)
      intro w1 m1
      go_wp2_with (refine wpList_box (tok 3 (251) k d) 34 rfl _ rfl rfl ?_)
      intro w2 m2
      go_wp2_with (refine wpList_alloc z 32 HZ.out rfl rfl ?_)
      intro w3 m3
      have z1 := m1.lt
      have z2 := m2.lt
      have z3 := m3.lt
      have b3 := m3.keep (m2.keep m1.box)
      have t3 := m3.keep m2.box
      have HB3 := Hid.mk' (m3.below w.heap.size w (by omega) (m2.below _ _ (by omega) (m1.below _ _ (Nat.le_refl _) (Below.refl _ w))))
      go_wp2_with (refine wpList_load_box 32 32 l w.heap.size _ Try.underlying32 rfl HS.out b3 rfl _ rfl rfl ?_)
      refine (HC.out _).mono ?_
      rintro e w4 ⟨rfl, h4⟩
      have b4 := b3.later h4
      have t4 := t3.later h4
      have r4 := m3.box.later h4
      have HB4 := Hid.mk' (HB3.out.trans (h4.mono (by omega)))
      have z4 := h4.size
      clear b3 h4 m1 m2 m3 t3
      have hle : w.heap.size ≤ w2.heap.size := by omega
      have q1 : w.heap.size < w2.heap.size := by omega
      have q2 : w1.heap.size < w2.heap.size := by omega
      have q3 : w.heap.size ≠ w1.heap.size := by omega
      have q4 : w2.heap.size ≠ w.heap.size := by omega
      have q5 : w.heap.size ≤ w4.heap.size := by omega
      have c0 := t4.cell (j := 0) (v := .int .i64 3) rfl
      have c1 := t4.cell (j := 1) (v := .int .i64 (251)) rfl
      have c2 := t4.cell (j := 2) (v := .int .i64 k) rfl
      have c3 := t4.cell (j := 3) (v := .string d) rfl
      clear z1 z2 z3 z4
      go_wp2_with fail
      refine (HBC.out _).mono ?_
      rintro e w5 ⟨rfl, rfl⟩
      go_wp2_with fail
      refine (HBO.out _).mono ?_
      rintro e w6 ⟨rfl, rfl⟩
      have hC2 : ∀ w', Below w6.heap.size w6 w' → w'.cell? ⟨w1.heap.size, 2, none⟩ = some (.int .i64 (k : Int)) := fun w' h => (t4.later h).cell rfl
      have hC1 : ∀ w', Below w6.heap.size w6 w' → w'.cell? ⟨w.heap.size, 256 + k, none⟩ = some (.int .u8 s) := fun w' h => (b4.later h).cell HST.out
      have hL : ∀ w', Below w6.heap.size w6 w' → Lies w' (.pointer (some ⟨w.heap.size, 516, none⟩)) 4 := fun w' h => (b4.later h).lies (by rw [HLN.out]; omega)
      have hR : ∀ w', Below w6.heap.size w6 w' → rowAt w' (.pointer (some ⟨w.heap.size, 516, none⟩)) 4 = X := fun w' h => ((b4.later h).row (by rw [HLN.out]; omega)).trans HX.out
      have H8 : Hid (Below w6.heap.size w6 w6.drew) := (Below.refl _ _).drew
      go_wp2_with fail
      go_region_held3 (fun w' => Below w6.heap.size w6 w') (first | assumption | exact H8.out | exact chain8 (by assumption) hb) (first | (go_at_call 31; refine (HMA.out _).mono ?_; rintro e wx ⟨rfl, hb⟩) | (go_at_call 10; refine (HHE.out _).mono ?_; rintro e wy ⟨rfl, hb⟩))
      have h8 : Below w6.heap.size w6 wy := by assumption
      have b8 := b4.later h8
      have t8 := t4.later h8
      have r8 := r4.later h8
      have HB8 := Hid.mk' (HB4.out.trans (h8.mono q5))
      clear hC2 hC1 hL hR H8 c0 c1 c2 c3 h8 hb b4 t4 r4
      have hc8 := b8.cell HST.out
      have hf8 := b8.frozen
      have hk8 := t8.cell (j := 2) (v := .int .i64 k) rfl
      have S9 := Stored.cell b8 (256 + k) (.int .u8 r1)
      rw [HV.out] at S9
      have b9 := Hid.mk' S9.box
      have t9 := Hid.mk' (S9.keep t8 (Ne.symm q3))
      have r9 := Hid.mk' (S9.keep r8 q4)
      have HB9 := Hid.mk' (S9.below _ _ (Nat.le_refl _) HB8.out)
      clear S9 b8 t8 r8
      go_wp2_with fail
      generalize wy.setCell ⟨w.heap.size, 256 + k, none⟩ (.int .u8 r1) = wq at *
      clear hc8 hf8 hk8
      have hL1 : ∀ w', Below w2.heap.size wq w' → Lies w' (.pointer (some ⟨w.heap.size, 0, none⟩)) 520 := fun w' h => (b9.out.below h q1).lies0 HP.out.len
      have hR1 : ∀ w', Below w2.heap.size wq w' → rowAt w' (.pointer (some ⟨w.heap.size, 0, none⟩)) 520 = l' := fun w' h => (b9.out.below h q1).row0 HP.out.len
      have hC2 : ∀ w', Below w2.heap.size wq w' → w'.cell? ⟨w1.heap.size, 2, none⟩ = some (.int .i64 (k : Int)) := fun w' h => (t9.out.below h q2).cell rfl
      have hL3 : ∀ w', HasBox w' w2.heap.size 32 520 → Lies w' (.pointer (some ⟨w2.heap.size, 0, none⟩)) 520 := fun w' h => h.lies
      have hH := HP.out.holds
      have H9 : Hid (Below w2.heap.size wq wq.drew ∧ HasBox wq.drew w2.heap.size 32 520) := ⟨(Below.refl _ _).drew, z, r9.out.drew, HZN.out⟩
      go_region_held3 (fun w' => Below w2.heap.size wq w' ∧ HasBox w' w2.heap.size 32 520) (first | assumption | exact H9.out | (refine kept9s ?_ HP.out.len; assumption) | (refine kept9 ?_ hb; assumption)) (first | (go_at_call 32; refine (HSA.out _).mono ?_; rintro e wz ⟨rfl, hb⟩; have hq : HasBox wz w2.heap.size 32 520 := HasBox.later (And.right ‹Below w2.heap.size wq _ ∧ HasBox _ w2.heap.size 32 520›) hb))
      have h9 := And.left ‹Below w2.heap.size wq _ ∧ HasBox _ w2.heap.size 32 520›
      have s9 := hq.put l' HP.out.len
      clear hL1 hR1 hC2 hL3 hH H9
      go_wp2
      exact ret_box3 Try.results14 32 l' w2.heap.size _ Try.underlying32 rfl HS'.out _ _ rfl rfl rfl s9.box rfl ⟨rfl, HB9.out.trans (h9.mono hle)⟩

theorem Taken_any (l : List Value) (hl : NegL l) (kd cm op : Int) (d : ByteArray) (w : World) :
    Calls Try.prog 14 #[.agg l.toArray, .agg (tok kd cm op d).toArray] w fun e w' => e = .returned (RNeg (takeR l kd cm op d).1 (takeR l kd cm op d).2.1 (takeR l kd cm op d).2.2) ∧ Below w.heap.size w w' := by
  unfold takeR
  cases hr : right l with
  | false => exact Taken_form l hl hr kd cm op d w
  | true =>
    rw [if_pos rfl]
    cases hi : isSay kd cm op d with
    | false => exact Taken_arg l hl hr kd cm op d hi w
    | true =>
      rw [if_pos rfl]
      obtain ⟨rfl, hc, hk, ho, hd⟩ := isSay_yes hi
      generalize decide (252 < cm) = us at *
      generalize decide (cm % 2 = 1) = on at *
      subst hc
      generalize op.toNat = k at *
      subst ho
      exact Taken_ok l hl hr us on k hk d hd w _ _ _ rfl
end Go.Proofs.Ytfehlfjondelnaa.Q
