/-
  Contract of the document's side: farref.Taken: whatever the cells of the Neg and of the token.
-/
import Derived.Test.YtfehlfjondelnaaQRef2
import Derived.Test.YtfehlfjondelnaaQTake
namespace Go.Proofs.Ytfehlfjondelnaa.Q
open Go.RowKit Go.Proofs.Ytfehlfjondelnaa

theorem exec_load30 (ρ : Operand → Value) (x : Operand) (dst : Option Tmp) (t : TypeId) (pos : String) (af : Array Edge) (g : Option (Nat × Bool)) (w : World) (h : Lies w (ρ x) 4) :
    (execOp ρ { dst := dst, op := .load 30 x, type := t, pos := pos, after := af, guard := g }).run Try.prog w = .ok (.value (.agg (rowAt w (ρ x) 4).toArray)) w :=
  exec_load 30 4 _ Try.underlying30 rfl size30 ρ x dst t pos af g w h

attribute [local go_sem ↓] exec_load32 exec_store32 exec_load30

theorem chain8 {w0 wX w' : World} (h : Below w0.heap.size w0 wX) (hb : Below wX.heap.size wX w') : Below w0.heap.size w0 w' := h.trans (hb.mono h.size)

theorem hear_say (s : Int) (on ag : Bool) : (hear s on ag).2.1 = 0 ∨ (hear s on ag).2.1 = 1 ∨ (hear s on ag).2.1 = 2 := by
  unfold hear
  repeat' split
  all_goals first | exact .inl rfl | exact .inr (.inl rfl) | exact .inr (.inr rfl)

set_option maxHeartbeats 4000000 in
theorem Taken_form (l : List Value) (hl : NegL l) (hr : right l = false) (kd cm op : Int) (d : ByteArray) (w : World) :
    Calls Try.prog 14 #[.agg l.toArray, .agg (tok kd cm op d).toArray] w fun e w' => e = .returned (RNeg l [] 4) ∧ Below w.heap.size w w' := by
  obtain ⟨z, hz, hzw⟩ := zero32
  have HZ := Hid.mk' hzw
  have HC := Hid.mk' (NegRight_any l hl)
  rw [hr] at HC
  have HL := Hid.mk' hl
  have HS : Hid ((Try.prog.info? 32).map (·.size) = some l.length) := by rw [hl.len]; exact size32
  have HN : Hid (z.length = l.length) := hz.len.trans hl.len.symm
  generalize tok kd cm op d = T at *
  clear hzw hl hz hr
  go_enter Try.func14, Try.ntmps14
  go_wp2_with (refine wpList_box l 32 rfl _ rfl rfl ?_)
  intro w1 m1
  go_wp2_with (refine wpList_box T 34 rfl _ rfl rfl ?_)
  intro w2 m2
  go_wp2_with (refine wpList_alloc z 32 HZ.out rfl rfl ?_)
  intro w3 m3
  have z1 := m1.lt
  have z2 := m2.lt
  have z3 := m3.lt
  have b3 := m3.keep (m2.keep m1.box)
  have HB3 := Hid.mk' (m3.below w.heap.size w (by omega) (m2.below _ _ (by omega) (m1.below _ _ (Nat.le_refl _) (Below.refl _ w))))
  go_wp2_with (refine wpList_load_box 32 32 l w.heap.size _ Try.underlying32 rfl HS.out b3 rfl _ rfl rfl ?_)
  refine (HC.out _).mono ?_
  rintro e w4 ⟨rfl, h4⟩
  have b4 := b3.later h4
  have r4 := m3.box.later h4
  have HB4 := Hid.mk' (HB3.out.trans (h4.mono (by omega)))
  have hle : w.heap.size ≤ w2.heap.size := by omega
  clear z1 z2 z3 b3 h4 m1 m2 m3
  go_wp2_with (first | (refine wpList_load_box 32 32 l w.heap.size _ Try.underlying32 rfl HS.out b4 rfl _ rfl rfl ?_) | (refine wpList_store_box 32 32 z l w2.heap.size HS.out HL.out.one r4 HN.out rfl _ _ rfl rfl rfl ?_))
  intro w5 s5
  go_wp2
  exact ret_box3 Try.results14 32 l w2.heap.size _ Try.underlying32 rfl HS.out _ _ rfl rfl rfl s5.box rfl ⟨rfl, s5.below _ _ hle HB4.out⟩

theorem isSay_no {kd cm op : Int} {d : ByteArray} (h : isSay kd cm op d = false) : kd ≠ 3 ∨ d.toList.isEmpty = false ∨ btw cm 251 254 = false ∨ btw op 0 255 = false := by
  by_cases h1 : kd = 3
  · cases h2 : d.toList.isEmpty with
    | false => exact .inr (.inl rfl)
    | true =>
      cases h3 : btw cm 251 254 with
      | false => exact .inr (.inr (.inl rfl))
      | true =>
        cases h4 : btw op 0 255 with
        | false => exact .inr (.inr (.inr rfl))
        | true =>
          unfold isSay at h
          rw [h2, Bool.and_true, decide_eq_true ⟨h1, of_decide_eq_true h3, of_decide_eq_true h4⟩] at h
          cases h
  · exact .inl h1

set_option maxHeartbeats 8000000 in
theorem Taken_arg (l : List Value) (hl : NegL l) (hr : right l = true) (kd cm op : Int) (d : ByteArray) (hi : isSay kd cm op d = false) (w : World) :
    Calls Try.prog 14 #[.agg l.toArray, .agg (tok kd cm op d).toArray] w fun e w' => e = .returned (RNeg l [] 1) ∧ Below w.heap.size w w' := by
  obtain ⟨z, hz, hzw⟩ := zero32
  have HZ := Hid.mk' hzw
  have HC := Hid.mk' (NegRight_any l hl)
  rw [hr] at HC
  have hno := isSay_no hi
  have HL := Hid.mk' hl
  have HS : Hid ((Try.prog.info? 32).map (·.size) = some l.length) := by rw [hl.len]; exact size32
  have HT : Hid ((Try.prog.info? 34).map (·.size) = some (tok kd cm op d).length) := size34
  have HN : Hid (z.length = l.length) := hz.len.trans hl.len.symm
  clear hzw hl hz hr hi
  go_enter Try.func14, Try.ntmps14
  go_wp2_with (refine wpList_box l 32 rfl _ rfl rfl ?_)
  intro w1 m1
  go_wp2_with (refine wpList_box (tok kd cm op d) 34 rfl _ rfl rfl ?_)
  intro w2 m2
  go_wp2_with (refine wpList_alloc z 32 HZ.out rfl rfl ?_)
  intro w3 m3
  have z1 := m1.lt
  have z2 := m2.lt
  have z3 := m3.lt
  have b3 := m3.keep (m2.keep m1.box)
  have t3 := m3.keep m2.box
  have HB3 := Hid.mk' (m3.below w.heap.size w (by omega) (m2.below _ _ (by omega) (m1.below _ _ (Nat.le_refl _) (Below.refl _ w))))
  go_wp2_with (refine wpList_load_box 32 32 l w.heap.size _ Try.underlying32 rfl HS.out b3 rfl _ rfl rfl ?_)
  refine (HC.out _).mono ?_
  rintro e w4 ⟨rfl, h4⟩
  have b4 := b3.later h4
  have t4 := t3.later h4
  have r4 := m3.box.later h4
  have HB4 := Hid.mk' (HB3.out.trans (h4.mono (by omega)))
  have z4 := h4.size
  clear b3 h4 m1 m2 m3 t3
  have hle : w.heap.size ≤ w2.heap.size := by omega
  have c0 := t4.cell (j := 0) (v := .int .i64 kd) rfl
  have c1 := t4.cell (j := 1) (v := .int .i64 cm) rfl
  have c2 := t4.cell (j := 2) (v := .int .i64 op) rfl
  have c3 := t4.cell (j := 3) (v := .string d) rfl
  clear z1 z2 z3 z4 t4
  have fin : ∀ w6, Stored w4 w6 w2.heap.size 32 l → Below w.heap.size w w6 := fun w6 s6 => s6.below _ _ hle HB4.out
  have HF := Hid.mk' fin
  clear fin hle
  have HBC := Hid.mk' (Between_any cm 251 254)
  have HBO := Hid.mk' (Between_any op 0 255)
  by_cases hk : kd = 3
  · subst hk
    cases hd : d.toList.isEmpty with
    | false =>
      clear hno
      go_wp2_with (first | (refine wpList_load_box 32 32 l w.heap.size _ Try.underlying32 rfl HS.out b4 rfl _ rfl rfl ?_) | (refine wpList_store_box 32 32 z l w2.heap.size HS.out HL.out.one r4 HN.out rfl _ _ rfl rfl rfl ?_))
      intro w6 s6
      go_wp2
      exact ret_box3 Try.results14 32 l w2.heap.size _ Try.underlying32 rfl HS.out _ _ rfl rfl rfl s6.box rfl ⟨rfl, HF.out _ s6⟩
    | true =>
      cases hc : btw cm 251 254 with
      | false =>
        rw [hc] at HBC
        clear hno hc
        go_wp2_with fail
        refine (HBC.out _).mono ?_
        rintro e w5 ⟨rfl, rfl⟩
        go_wp2_with (first | (refine wpList_load_box 32 32 l w.heap.size _ Try.underlying32 rfl HS.out b4 rfl _ rfl rfl ?_) | (refine wpList_store_box 32 32 z l w2.heap.size HS.out HL.out.one r4 HN.out rfl _ _ rfl rfl rfl ?_))
        intro w6 s6
        go_wp2
        exact ret_box3 Try.results14 32 l w2.heap.size _ Try.underlying32 rfl HS.out _ _ rfl rfl rfl s6.box rfl ⟨rfl, HF.out _ s6⟩
      | true =>
        have ho : btw op 0 255 = false := by
          rcases hno with h | h | h | h
          · exact absurd rfl h
          · rw [hd] at h; cases h
          · rw [hc] at h; cases h
          · exact h
        rw [hc] at HBC
        rw [ho] at HBO
        clear hno hc ho
        go_wp2_with fail
        refine (HBC.out _).mono ?_
        rintro e w5 ⟨rfl, rfl⟩
        go_wp2_with fail
        refine (HBO.out _).mono ?_
        rintro e w7 ⟨rfl, rfl⟩
        go_wp2_with (first | (refine wpList_load_box 32 32 l w.heap.size _ Try.underlying32 rfl HS.out b4 rfl _ rfl rfl ?_) | (refine wpList_store_box 32 32 z l w2.heap.size HS.out HL.out.one r4 HN.out rfl _ _ rfl rfl rfl ?_))
        intro w6 s6
        go_wp2
        exact ret_box3 Try.results14 32 l w2.heap.size _ Try.underlying32 rfl HS.out _ _ rfl rfl rfl s6.box rfl ⟨rfl, HF.out _ s6⟩
  · clear hno
    go_wp2_with (first | (refine wpList_load_box 32 32 l w.heap.size _ Try.underlying32 rfl HS.out b4 rfl _ rfl rfl ?_) | (refine wpList_store_box 32 32 z l w2.heap.size HS.out HL.out.one r4 HN.out rfl _ _ rfl rfl rfl ?_))
    intro w6 s6
    go_wp2
    exact ret_box3 Try.results14 32 l w2.heap.size _ Try.underlying32 rfl HS.out _ _ rfl rfl rfl s6.box rfl ⟨rfl, HF.out _ s6⟩
end Go.Proofs.Ytfehlfjondelnaa.Q
