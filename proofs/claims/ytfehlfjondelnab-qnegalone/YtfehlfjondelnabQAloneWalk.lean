/-
  Walk: farkeep.QnegAlone returns true. No condition.
-/
import Derived.Test.YtfehlfjondelnabQEq
import Derived.Test.YtfehlfjondelnabQWant
import Derived.Test.YtfehlfjondelnabQLives
import Derived.Test.YtfehlfjondelnabQRight
namespace Go.Proofs.Ytfehlfjondelnab.Q
open Go.RowKit Go.Proofs.Ytfehlfjondelnab

theorem exec_load28 (ρ : Operand → Value) (x : Operand) (dst : Option Tmp) (t : TypeId) (pos : String) (af : Array Edge) (g : Option (Nat × Bool)) (w : World) (h : Lies w (ρ x) 256) :
    (execOp ρ { dst := dst, op := .load 27 x, type := t, pos := pos, after := af, guard := g }).run Try.prog w = .ok (.value (.agg (rowAt w (ρ x) 256).toArray)) w :=
  exec_load 27 256 _ Try.underlying27 rfl rows28 ρ x dst t pos af g w h

theorem hear_le {s : Int} (on ag : Bool) (h0 : 0 ≤ s) (h1 : s ≤ 5) : 0 ≤ (hear s on ag).1 ∧ (hear s on ag).1 ≤ 5 := by
  unfold hear
  repeat' split
  all_goals first | exact ⟨by decide, by decide⟩ | exact ⟨h0, h1⟩
theorem ask_le {s : Int} (on : Bool) (h0 : 0 ≤ s) (h1 : s ≤ 5) : 0 ≤ (ask s on).1 ∧ (ask s on).1 ≤ 5 := by
  unfold ask
  repeat' split
  all_goals first | exact ⟨by decide, by decide⟩ | exact ⟨h0, h1⟩
theorem takeR_ok {l : List Value} (hl : NegL l) {kd cm op : Int} {d : ByteArray} (h : (takeR l kd cm op d).2.2 = 0) : right l = true ∧ ∃ (k : Nat) (r : Int), k < 256 ∧ op = (k : Int) ∧ 0 ≤ r ∧ r ≤ 5 ∧ (takeR l kd cm op d).1 = putSt l (decide (252 < cm)) k r := by
  unfold takeR at *
  cases hr : right l with
  | false => rw [hr, if_neg (by decide)] at h; cases h
  | true =>
    refine ⟨rfl, ?_⟩
    rw [hr, if_pos rfl] at h
    cases hi : isSay kd cm op d with
    | false => rw [hi, if_neg (by decide)] at h; cases h
    | true =>
      obtain ⟨_, _, hk, ho, _⟩ := isSay_yes hi
      have hb := hl.byte (place_lt (decide (252 < cm)) hk)
      have h5 := right_yes hr _ (place_lt (decide (252 < cm)) hk)
      have hle := hear_le (decide (cm % 2 = 1)) (may l (decide (252 < cm)) op.toNat) hb.2.1 h5
      exact ⟨op.toNat, _, hk, ho, hle.1, hle.2, rfl⟩
theorem takeR_err {l : List Value} {kd cm op : Int} {d : ByteArray} (h : (takeR l kd cm op d).2.2 ≠ 0) : (takeR l kd cm op d).1 = l ∧ (takeR l kd cm op d).2.1 = [] := by
  unfold takeR at *
  split
  · rename_i hr
    rw [if_pos hr] at h
    split
    · rename_i hi
      rw [if_pos hi] at h
      exact absurd rfl h
    · exact ⟨rfl, rfl⟩
  · exact ⟨rfl, rfl⟩
theorem wantR_ok {l : List Value} (hl : NegL l) {us : Bool} {op : Int} {on : Bool} (h : (wantR l us op on).2.2 = 0) : right l = true ∧ ∃ (k : Nat) (r : Int), k < 256 ∧ op = (k : Int) ∧ 0 ≤ r ∧ r ≤ 5 ∧ (wantR l us op on).1 = putSt l us k r := by
  unfold wantR at *
  cases hr : right l with
  | false => rw [hr, if_neg (by decide)] at h; cases h
  | true =>
    refine ⟨rfl, ?_⟩
    rw [hr, if_pos rfl] at h
    rw [if_pos rfl]
    cases hi : isOp op with
    | false => rw [hi, if_neg (by decide)] at h; cases h
    | true =>
      rw [hi, if_pos rfl] at h
      rw [if_pos rfl]
      obtain ⟨hk, ho⟩ := isOp_yes hi
      by_cases h0 : (ask (st l (place us op.toNat)) on).2.2 = 0
      · rw [if_pos h0]
        have hb := hl.byte (place_lt us hk)
        have h5 := right_yes hr _ (place_lt us hk)
        have hle := ask_le on hb.2.1 h5
        exact ⟨op.toNat, _, hk, ho, hle.1, hle.2, rfl⟩
      · rw [if_neg h0] at h
        exact absurd h h0
theorem wantR_err {l : List Value} {us : Bool} {op : Int} {on : Bool} (h : (wantR l us op on).2.2 ≠ 0) : (wantR l us op on).1 = l ∧ (wantR l us op on).2.1 = [] := by
  unfold wantR at *
  split
  · rename_i hr
    rw [if_pos hr] at h
    split
    · rename_i hi
      rw [if_pos hi] at h
      split
      · rename_i h0
        rw [if_pos h0] at h
        exact absurd rfl h
      · exact ⟨rfl, rfl⟩
    · exact ⟨rfl, rfl⟩
  · exact ⟨rfl, rfl⟩
theorem takeR_neg {l : List Value} (hl : NegL l) (kd cm op : Int) (d : ByteArray) : NegL (takeR l kd cm op d).1 := by
  by_cases h : (takeR l kd cm op d).2.2 = 0
  · obtain ⟨_, k, r, hk, _, h0, h5, e⟩ := takeR_ok hl h
    rw [e]
    exact hl.put _ hk h0 (by omega)
  · rw [(takeR_err h).1]
    exact hl
theorem wantR_neg {l : List Value} (hl : NegL l) (us : Bool) (op : Int) (on : Bool) : NegL (wantR l us op on).1 := by
  by_cases h : (wantR l us op on).2.2 = 0
  · obtain ⟨_, k, r, hk, _, h0, h5, e⟩ := wantR_ok hl h
    rw [e]
    exact hl.put _ hk h0 (by omega)
  · rw [(wantR_err h).1]
    exact hl
theorem putSt_st {l : List Value} (hl : NegL l) (us : Bool) {k : Nat} (hk : k < 256) (r : Int) (j : Nat) : st (putSt l us k r) j = if j = place us k then r else st l j := by
  unfold st putSt
  have hp := place_lt us hk
  have hn := hl.len
  rw [List.getD_eq_getElem?_getD, List.getD_eq_getElem?_getD]
  split
  · rename_i e
    subst e
    rw [List.getElem?_set_self (by omega)]
    rfl
  · rename_i e
    rw [List.getElem?_set_ne (fun e2 => e e2.symm)]
theorem right_put {l : List Value} (hl : NegL l) (hr : right l = true) (us : Bool) {k : Nat} (hk : k < 256) {r : Int} (h5 : r ≤ 5) : right (putSt l us k r) = true := by
  rw [right_iff]
  intro j hj
  rw [putSt_st hl us hk]
  split
  · exact h5
  · exact right_yes hr j hj
theorem put_back {l : List Value} (hl : NegL l) (us : Bool) {k : Nat} (hk : k < 256) (r : Int) : ((putSt l us k r).set k (.int .u8 (st l k))).set (256 + k) (.int .u8 (st l (256 + k))) = l := by
  have hn := hl.len
  have e1 := (hl.byte (show k < 512 by omega)).1
  have e2 := (hl.byte (show 256 + k < 512 by omega)).1
  unfold putSt
  have hp : place us k = k ∨ place us k = 256 + k := by cases us <;> simp [place]
  generalize place us k = p at *
  apply List.ext_getElem?
  intro j
  by_cases h2 : 256 + k = j
  · subst h2
    rw [List.getElem?_set_self (by simp; omega), e2]
  · rw [List.getElem?_set_ne h2]
    by_cases h1 : k = j
    · subst h1
      rw [List.getElem?_set_self (by simp; omega), e1]
    · rw [List.getElem?_set_ne h1, List.getElem?_set_ne (by omega)]
theorem put_part {l : List Value} (us : Bool) {k : Nat} (hk : k < 256) (r : Int) : ((putSt l us k r).drop (if us then 256 else 0)).take 256 = (l.drop (if us then 256 else 0)).take 256 := by
  apply List.ext_getElem?
  intro j
  rw [List.getElem?_take, List.getElem?_take]
  split
  · rename_i hj
    rw [List.getElem?_drop, List.getElem?_drop]
    unfold putSt
    rw [List.getElem?_set_ne]
    cases us <;> simp [place] <;> omega
  · rfl
theorem half_same {l : List Value} (hl : NegL l) {o : Nat} (ho : o + 256 ≤ 512) : SameH (.agg ((l.drop o).take 256).toArray) (.agg ((l.drop o).take 256).toArray) :=
  ⟨_, fun i hi => by
    obtain ⟨k, v, e⟩ := hl.int (j := o + i) (by omega)
    refine ⟨k, v, ?_⟩
    simp only [List.getElem?_toArray]
    rw [List.getElem?_take, if_pos hi, List.getElem?_drop, e], rfl, rfl⟩

/-- the cell at a place -/
def cellAt (w : World) (b j : Nat) : Value := (w.cell? ⟨b, j, none⟩).getD undef
theorem HasBox.cellAt {w : World} {b : Nat} {t : TypeId} {n : Nat} (h : HasBox w b t n) {j : Nat} (hj : j < n) : w.cell? ⟨b, j, none⟩ = some (cellAt w b j) := by
  obtain ⟨q, hq, hn⟩ := h
  have e := hq.cell (List.getElem?_eq_getElem (show j < q.length by omega))
  unfold Q.cellAt
  rw [e]
  rfl
theorem HasBox.frozen {w : World} {b : Nat} {t : TypeId} {n : Nat} (h : HasBox w b t n) (j : Nat) : w.frozen? ⟨b, j, none⟩ = false := by
  obtain ⟨q, hq, _⟩ := h
  exact hq.frozen j
theorem kept7 {w0 wX : World} {b : Nat} {t : TypeId} {n : Nat} (hS : Below b w0 wX ∧ HasBox wX b t n) (j : Nat) (v : Value) : Below b w0 (wX.setCell ⟨b, j, none⟩ v) ∧ HasBox (wX.setCell ⟨b, j, none⟩ v) b t n := by
  obtain ⟨h, q, hq, hn⟩ := hS
  exact ⟨h.setCell (p := ⟨b, j, none⟩) (Nat.le_refl _) v, q.set j v, hq.setCell j v, by simpa using hn⟩
theorem kept7d {w0 wX : World} {b : Nat} {t : TypeId} {n : Nat} (hS : Below b w0 wX.drew ∧ HasBox wX.drew b t n) (j : Nat) (v : Value) : Below b w0 (wX.setCell ⟨b, j, none⟩ v).drew ∧ HasBox (wX.setCell ⟨b, j, none⟩ v).drew b t n := kept7 hS j v
theorem chain9 {w w1 w2 : World} (h1 : Below w.heap.size w w1) (h2 : Below w1.heap.size w1 w2) : Below w.heap.size w w2 := h1.trans (h2.mono h1.size)

attribute [local go_sem ↓] exec_load32 exec_store32 exec_load28 exec_eql32 exec_neq32 exec_neq28

set_option maxHeartbeats 16000000 in
set_option maxRecDepth 1200 in
theorem QnegAlone_any (l : List Value) (hl : NegL l) (kd cm op : Int) (d : ByteArray) (us : Bool) (opt : Int) (on : Bool) (w : World) :
    Calls Try.prog 4 #[.agg l.toArray, .agg (tok kd cm op d).toArray, .bool us, .int .i64 opt, .bool on] w fun e w' => e = .returned (.bool true) ∧ Below w.heap.size w w' := by
  obtain ⟨z, hz, hzw⟩ := zero32
  have HZ := Hid.mk' hzw
  have H1 := Hid.mk' (Take_any l hl kd cm op d)
  have H2 := Hid.mk' (Want_any l hl us opt on)
  have HA := Hid.mk' (takeR_neg hl kd cm op d)
  have HB := Hid.mk' (wantR_neg hl us opt on)
  have HAok := Hid.mk' (takeR_ok (kd := kd) (cm := cm) (op := op) (d := d) hl)
  have HAer := Hid.mk' (takeR_err (l := l) (kd := kd) (cm := cm) (op := op) (d := d))
  have HBok := Hid.mk' (wantR_ok (us := us) (op := opt) (on := on) hl)
  have HBer := Hid.mk' (wantR_err (l := l) (us := us) (op := opt) (on := on))
  unfold RNeg at H1 H2
  generalize takeR l kd cm op d = ra at *
  obtain ⟨la, wa, ea⟩ := ra
  generalize wantR l us opt on = rb at *
  obtain ⟨lb, wb, eb⟩ := rb
  dsimp only at H1 H2 HA HB HAok HAer HBok HBer
  have HL := Hid.mk' hl
  have HS : Hid ((Try.prog.info? 31).map (·.size) = some l.length) := by rw [hl.len]; exact size32
  have HSA : Hid ((Try.prog.info? 31).map (·.size) = some la.length) := by rw [HA.out.len]; exact size32
  have HSB : Hid ((Try.prog.info? 31).map (·.size) = some lb.length) := by rw [HB.out.len]; exact size32
  have HT : Hid ((Try.prog.info? 33).map (·.size) = some (tok kd cm op d).length) := size34
  have HNA : Hid (z.length = la.length) := hz.len.trans HA.out.len.symm
  have HNB : Hid (z.length = lb.length) := hz.len.trans HB.out.len.symm
  have HT1 : Hid ((tok kd cm op d)[1]? = some (.int .i64 cm)) := rfl
  have HT2 : Hid ((tok kd cm op d)[2]? = some (.int .i64 op)) := rfl
  generalize tok kd cm op d = T at *
  clear hzw hl hz
  go_enter Try.func4, Try.ntmps4
  go_wp2_with (refine wpList_box l 31 rfl _ rfl rfl ?_)
  intro w0 m0
  go_wp2_with (refine wpList_box T 33 rfl _ rfl rfl ?_)
  intro w1 m1
  have b1 := m1.keep m0.box
  have t1 := m1.box
  have z0 := m0.lt
  have z1 := m1.lt
  have HB1 := Hid.mk' (m1.below w.heap.size w (by omega) (m0.below w.heap.size w (Nat.le_refl _) (Below.refl _ w)))
  clear m1 m0
  go_wp2_with (first | (refine wpList_load_box 31 31 l w.heap.size _ Try.underlying31 rfl HS.out b1 rfl _ rfl rfl ?_) | (refine wpList_load_box 33 33 T w0.heap.size _ Try.underlying33 rfl HT.out t1 rfl _ rfl rfl ?_))
  refine (H1.out _).mono ?_
  rintro e w2 ⟨rfl, h2⟩
  have b2 := b1.later h2
  have t2 := t1.later h2
  have HB2 := Hid.mk' (chain9 HB1.out h2)
  have z2 := h2.size
  clear h2 b1 t1
  go_wp2_with (with_reducible refine wpList_alloc z 31 HZ.out rfl rfl ?_)
  intro w3 m3
  have b3 := m3.keep b2
  have t3 := m3.keep t2
  have z3 := m3.lt
  have HB3 := Hid.mk' (m3.below _ _ (by omega) HB2.out)
  go_wp2_with (refine wpList_store_box 31 31 z la w2.heap.size HSA.out HA.out.one m3.box HNA.out rfl _ _ rfl rfl rfl ?_)
  intro w4 s4
  have b4 := s4.keep b3 (by omega)
  have t4 := s4.keep t3 (by omega)
  have x4 := s4.box
  have HB4 := Hid.mk' (s4.below _ _ (by omega) HB3.out)
  have y4 := s4.size
  have z4 : w2.heap.size < w4.heap.size := by omega
  clear m3 s4 b3 b2 y4 z3 t3 t2
  go_wp2_with (refine wpList_load_box 31 31 l w.heap.size _ Try.underlying31 rfl HS.out b4 rfl _ rfl rfl ?_)
  refine (H2.out _).mono ?_
  rintro e w5 ⟨rfl, h5⟩
  have x5 := x4.later h5
  have b5 := b4.later h5
  have t5 := t4.later h5
  have HB5 := Hid.mk' (HB4.out.trans (h5.mono (by omega)))
  have z5 := h5.size
  clear h5 b4 x4 t4
  go_wp2_with (with_reducible refine wpList_alloc z 31 HZ.out rfl rfl ?_)
  intro w6 m6
  have x6 := m6.keep x5
  have b6 := m6.keep b5
  have t6 := m6.keep t5
  have z6 := m6.lt
  have HB6 := Hid.mk' (m6.below _ _ (by omega) HB5.out)
  go_wp2_with (refine wpList_store_box 31 31 z lb w5.heap.size HSB.out HB.out.one m6.box HNB.out rfl _ _ rfl rfl rfl ?_)
  intro w7 s7
  have b7 := s7.keep b6 (by omega)
  have t7 := s7.keep t6 (by omega)
  have x7 := s7.keep x6 (by omega)
  have y7 := s7.box
  have HB7 := Hid.mk' (s7.below _ _ (by omega) HB6.out)
  have e7 := s7.size
  have z7 : w5.heap.size < w7.heap.size := by omega
  clear m6 s7 x6 x5 b5 b6 t5 t6 z6 e7
  go_wp2_with fail
  refine (lives_any _).mono ?_
  rintro e w8 ⟨rfl, h8⟩
  have b8 := Hid.mk' (b7.later h8)
  have t8 := Hid.mk' (t7.later h8)
  have x8 := Hid.mk' (x7.later h8)
  have y8 := Hid.mk' (y7.later h8)
  have HB8 := Hid.mk' (HB7.out.trans (h8.mono (by omega)))
  have z8 := h8.size
  have q0 : w.heap.size < w0.heap.size := by omega
  have q1 : w0.heap.size < w2.heap.size := by omega
  have q2 : w2.heap.size < w5.heap.size := by omega
  have q3 : w5.heap.size < w8.heap.size := by omega
  clear b7 t7 x7 y7 h8 z0 z1 z2 z4 z5 z7 z8
  by_cases hea : ea = 0
  · by_cases hc : 253 ≤ cm
    · rw [show decide (252 < cm) = true from decide_eq_true (by omega)] at HAok
      have hc2 : ¬ cm < 253 := by omega
      by_cases heb : eb = 0
      · subst hea
        obtain ⟨hr, k, r, hk, rfl, h0, h5, e1⟩ := HAok.out rfl
        have HE1 := Hid.mk' (HL.out.byte (show k < 512 by omega)).1
        have HE2 := Hid.mk' (HL.out.byte (show 256 + k < 512 by omega)).1
        have k0 : (0 : Int) ≤ (k : Int) := by omega
        have k1 : (k : Int) < 256 := by omega
        have HRA := Hid.mk' (NegRight_any la HA.out)
        rw [e1, right_put HL.out hr _ hk h5, ← e1] at HRA
        have HPA := Hid.mk' (put_back HL.out true hk r)
        rw [← e1] at HPA
        have HPP := Hid.mk' (put_part (l := l) true hk r)
        rw [← e1] at HPP
        clear e1
        subst heb
        obtain ⟨hrb, k2, rb2, hk2, rfl, hb0, hb5, e1⟩ := HBok.out rfl
        have HF1 := Hid.mk' (HL.out.byte (show k2 < 512 by omega)).1
        have HF2 := Hid.mk' (HL.out.byte (show 256 + k2 < 512 by omega)).1
        have j0 : (0 : Int) ≤ (k2 : Int) := by omega
        have j1 : (k2 : Int) < 256 := by omega
        have HRB := Hid.mk' (NegRight_any lb HB.out)
        rw [e1, right_put HL.out hrb _ hk2 hb5, ← e1] at HRB
        have HPB := Hid.mk' (put_back HL.out us hk2 rb2)
        rw [← e1] at HPB
        clear e1
        have hL1 := b8.out.lies0 HL.out.len
        have hR1 := b8.out.row0 HL.out.len
        have hH := HL.out.same
        have hL2 := x8.out.lies0 HA.out.len
        have hR2 := x8.out.row0 HA.out.len
        have hL3 := y8.out.lies0 HB.out.len
        have hR3 := y8.out.row0 HB.out.len
        go_wp2_with (with_reducible refine wpList_alloc z 31 HZ.out rfl rfl ?_)
        intro a9 am9
        clear hL1 hR1 hH hL2 hR2 hL3 hR3
        go_wp2_with (refine wpList_store_box 31 31 z la w8.heap.size HSA.out HA.out.one am9.box HNA.out rfl _ _ rfl rfl rfl ?_)
        intro a10 as10
        have ab10 := Hid.mk' (as10.keep (am9.keep b8.out) (by omega))
        have at10 := Hid.mk' (as10.keep (am9.keep t8.out) (by omega))
        have ax10 := Hid.mk' (as10.keep (am9.keep x8.out) (by omega))
        have ay10 := Hid.mk' (as10.keep (am9.keep y8.out) (by omega))
        have av10 := Hid.mk' as10.box
        have aHB10 := Hid.mk' (as10.below _ _ (by omega) (am9.below _ _ (by omega) HB8.out))
        have ay10 := as10.size
        have ay9 := am9.lt
        have az10 : w8.heap.size < a10.heap.size := by omega
        have aqb : w.heap.size < w8.heap.size := b8.out.lt
        have aqt : w0.heap.size < w8.heap.size := t8.out.lt
        have aqx : w2.heap.size < w8.heap.size := x8.out.lt
        have aqy : w5.heap.size < w8.heap.size := y8.out.lt
        clear am9 as10 ay10 ay9
        have ahC : ∀ w', Below w8.heap.size a10 w' → w'.cell? ⟨w0.heap.size, 2, none⟩ = some (.int .i64 (k : Int)) := fun w' h => (at10.out.below h aqt).cell HT2.out
        have ahC1 : ∀ w', Below w8.heap.size a10 w' → w'.cell? ⟨w.heap.size, k, none⟩ = some (.int .u8 (st l k)) := fun w' h => (ab10.out.below h aqb).cell HE1.out
        have ahC2 : ∀ w', Below w8.heap.size a10 w' → w'.cell? ⟨w.heap.size, 256 + k, none⟩ = some (.int .u8 (st l (256 + k))) := fun w' h => (ab10.out.below h aqb).cell HE2.out
        have ahD1 : ∀ w', HasBox w' w8.heap.size 31 520 → w'.cell? ⟨w8.heap.size, k, none⟩ = some (cellAt w' w8.heap.size k) := fun w' h => h.cellAt (by omega)
        have ahD2 : ∀ w', HasBox w' w8.heap.size 31 520 → w'.cell? ⟨w8.heap.size, 256 + k, none⟩ = some (cellAt w' w8.heap.size (256 + k)) := fun w' h => h.cellAt (by omega)
        have ahF : ∀ w' j, HasBox w' w8.heap.size 31 520 → w'.frozen? ⟨w8.heap.size, j, none⟩ = false := fun w' j h => h.frozen j
        have aHK : Hid (Below w8.heap.size a10 a10.drew ∧ HasBox a10.drew w8.heap.size 31 520) := ⟨(Below.refl _ _).drew, la, av10.out.drew, HA.out.len⟩
        have aH7a := Hid.mk' (kept7d aHK.out k (.int .u8 (st l k)))
        have aH7b := Hid.mk' (kept7d aH7a.out (256 + k) (.int .u8 (st l (256 + k))))
        go_wp2_with fail
        go_region_held3 (fun w' => Below w8.heap.size a10 w' ∧ HasBox w' w8.heap.size 31 520) (first | with_reducible assumption | with_reducible exact aHK.out | with_reducible exact aH7a.out | with_reducible exact aH7b.out) (fail)
        have avq := Hid.mk' (((av10.out.setCell k (.int .u8 (st l k))).setCell (256 + k) (.int .u8 (st l (256 + k)))).drew)
        rw [HPA.out] at avq
        have abq := Hid.mk' (ab10.out.below aH7b.out.1 aqb)
        have atq := Hid.mk' (at10.out.below aH7b.out.1 aqt)
        have axq := Hid.mk' (ax10.out.below aH7b.out.1 aqx)
        have ayq := Hid.mk' (ay10.out.below aH7b.out.1 aqy)
        have aHBq := Hid.mk' (aHB10.out.trans (aH7b.out.1.mono (by omega)))
        have azq := aH7b.out.1.size
        clear ahC1 ahC2 ahD1 ahD2 ahF aHK aH7a aH7b aHB10 av10 ahC ab10 at10 ax10 ay10
        generalize ((a10.setCell ⟨w8.heap.size, k, none⟩ (.int .u8 (st l k))).setCell ⟨w8.heap.size, 256 + k, none⟩ (.int .u8 (st l (256 + k)))).drew = awq at *
        have hL17 := avq.out.lies0 HL.out.len
        have hR17 := avq.out.row0 HL.out.len
        have hL1 := abq.out.lies0 HL.out.len
        have hR1 := abq.out.row0 HL.out.len
        have hL2 := axq.out.lies0 HA.out.len
        have hR2 := axq.out.row0 HA.out.len
        have hH := HL.out.same
        have hc1 := atq.out.cell HT1.out
        have hLa := axq.out.lies (o := 256) (n := 256) (by rw [HA.out.len]; omega)
        have hRa := (axq.out.row (o := 256) (n := 256) (by rw [HA.out.len]; omega)).trans (show (la.drop 256).take 256 = (l.drop 256).take 256 from HPP.out)
        have hLn := abq.out.lies (o := 256) (n := 256) (by rw [HL.out.len]; omega)
        have hRn := abq.out.row (o := 256) (n := 256) (by rw [HL.out.len]; omega)
        have hSH := half_same HL.out (o := 256) (by omega)
        generalize ((l.drop 256).take 256) = X at *
        go_wp2_with fail
        refine (HRA.out _).mono ?_
        rintro e w12 ⟨rfl, h12⟩
        have b12 := Hid.mk' (abq.out.later h12)
        have y12 := Hid.mk' (ayq.out.later h12)
        have HB12 := Hid.mk' (aHBq.out.trans (h12.mono (by omega)))
        have z12 := h12.size
        have z13 : w.heap.size < w12.heap.size := b12.out.lt
        have z14 : w5.heap.size < w12.heap.size := y12.out.lt
        clear hL17 hR17 hL1 hR1 hL2 hR2 hH hc1 hLa hRa hLn hRn hSH h12 abq ayq axq atq avq aHBq
        have hL3 := y12.out.lies0 HB.out.len
        have hR3 := y12.out.row0 HB.out.len
        go_wp2_with (with_reducible refine wpList_alloc z 31 HZ.out rfl rfl ?_)
        intro c9 cm9
        clear hL3 hR3
        go_wp2_with (refine wpList_store_box 31 31 z lb w12.heap.size HSB.out HB.out.one cm9.box HNB.out rfl _ _ rfl rfl rfl ?_)
        intro c10 cs10
        have cb10 := Hid.mk' (cs10.keep (cm9.keep b12.out) (by omega))
        have cy10 := Hid.mk' (cs10.keep (cm9.keep y12.out) (by omega))
        have cv10 := Hid.mk' cs10.box
        have cHB10 := Hid.mk' (cs10.below _ _ (by omega) (cm9.below _ _ (by omega) HB12.out))
        have cy10 := cs10.size
        have cy9 := cm9.lt
        have cz10 : w12.heap.size < c10.heap.size := by omega
        have cqb : w.heap.size < w12.heap.size := b12.out.lt
        have cqy : w5.heap.size < w12.heap.size := y12.out.lt
        clear cm9 cs10 cy10 cy9
        have chC1 : ∀ w', Below w12.heap.size c10 w' → w'.cell? ⟨w.heap.size, k2, none⟩ = some (.int .u8 (st l k2)) := fun w' h => (cb10.out.below h cqb).cell HF1.out
        have chC2 : ∀ w', Below w12.heap.size c10 w' → w'.cell? ⟨w.heap.size, 256 + k2, none⟩ = some (.int .u8 (st l (256 + k2))) := fun w' h => (cb10.out.below h cqb).cell HF2.out
        have chD1 : ∀ w', HasBox w' w12.heap.size 31 520 → w'.cell? ⟨w12.heap.size, k2, none⟩ = some (cellAt w' w12.heap.size k2) := fun w' h => h.cellAt (by omega)
        have chD2 : ∀ w', HasBox w' w12.heap.size 31 520 → w'.cell? ⟨w12.heap.size, 256 + k2, none⟩ = some (cellAt w' w12.heap.size (256 + k2)) := fun w' h => h.cellAt (by omega)
        have chF : ∀ w' j, HasBox w' w12.heap.size 31 520 → w'.frozen? ⟨w12.heap.size, j, none⟩ = false := fun w' j h => h.frozen j
        have cHK : Hid (Below w12.heap.size c10 c10.drew ∧ HasBox c10.drew w12.heap.size 31 520) := ⟨(Below.refl _ _).drew, lb, cv10.out.drew, HB.out.len⟩
        have cH7a := Hid.mk' (kept7d cHK.out k2 (.int .u8 (st l k2)))
        have cH7b := Hid.mk' (kept7d cH7a.out (256 + k2) (.int .u8 (st l (256 + k2))))
        go_wp2_with fail
        go_region_held3 (fun w' => Below w12.heap.size c10 w' ∧ HasBox w' w12.heap.size 31 520) (first | with_reducible assumption | with_reducible exact cHK.out | with_reducible exact cH7a.out | with_reducible exact cH7b.out) (fail)
        have cvq := Hid.mk' (((cv10.out.setCell k2 (.int .u8 (st l k2))).setCell (256 + k2) (.int .u8 (st l (256 + k2)))).drew)
        rw [HPB.out] at cvq
        have cbq := Hid.mk' (cb10.out.below cH7b.out.1 cqb)
        have cyq := Hid.mk' (cy10.out.below cH7b.out.1 cqy)
        have cHBq := Hid.mk' (cHB10.out.trans (cH7b.out.1.mono (by omega)))
        have czq := cH7b.out.1.size
        clear chC1 chC2 chD1 chD2 chF cHK cH7a cH7b cHB10 cv10 cb10 cy10
        generalize ((c10.setCell ⟨w12.heap.size, k2, none⟩ (.int .u8 (st l k2))).setCell ⟨w12.heap.size, 256 + k2, none⟩ (.int .u8 (st l (256 + k2)))).drew = cwq at *
        have hL18 := cvq.out.lies0 HL.out.len
        have hR18 := cvq.out.row0 HL.out.len
        have hL1 := cbq.out.lies0 HL.out.len
        have hR1 := cbq.out.row0 HL.out.len
        have hL3 := cyq.out.lies0 HB.out.len
        have hR3 := cyq.out.row0 HB.out.len
        have hH := HL.out.same
        go_wp2_with fail
        refine (HRB.out _).mono ?_
        rintro e w15 ⟨rfl, h15⟩
        have HB15 := Hid.mk' (cHBq.out.trans (h15.mono (by omega)))
        clear hL18 hR18 hL1 hR1 hL3 hR3 hH h15
        go_wp2
        go_ret
        exact ⟨rfl, HB15.out⟩
      · subst hea
        obtain ⟨hr, k, r, hk, rfl, h0, h5, e1⟩ := HAok.out rfl
        have HE1 := Hid.mk' (HL.out.byte (show k < 512 by omega)).1
        have HE2 := Hid.mk' (HL.out.byte (show 256 + k < 512 by omega)).1
        have k0 : (0 : Int) ≤ (k : Int) := by omega
        have k1 : (k : Int) < 256 := by omega
        have HRA := Hid.mk' (NegRight_any la HA.out)
        rw [e1, right_put HL.out hr _ hk h5, ← e1] at HRA
        have HPA := Hid.mk' (put_back HL.out true hk r)
        rw [← e1] at HPA
        have HPP := Hid.mk' (put_part (l := l) true hk r)
        rw [← e1] at HPP
        clear e1
        obtain ⟨e1, e2⟩ := HBer.out heb
        have e3 := e1.symm
        subst e3
        subst e2
        have hL1 := b8.out.lies0 HL.out.len
        have hR1 := b8.out.row0 HL.out.len
        have hH := HL.out.same
        have hL2 := x8.out.lies0 HA.out.len
        have hR2 := x8.out.row0 HA.out.len
        have hL3 := y8.out.lies0 HL.out.len
        have hR3 := y8.out.row0 HL.out.len
        go_wp2_with (with_reducible refine wpList_alloc z 31 HZ.out rfl rfl ?_)
        intro a9 am9
        clear hL1 hR1 hH hL2 hR2 hL3 hR3
        go_wp2_with (refine wpList_store_box 31 31 z la w8.heap.size HSA.out HA.out.one am9.box HNA.out rfl _ _ rfl rfl rfl ?_)
        intro a10 as10
        have ab10 := Hid.mk' (as10.keep (am9.keep b8.out) (by omega))
        have at10 := Hid.mk' (as10.keep (am9.keep t8.out) (by omega))
        have ax10 := Hid.mk' (as10.keep (am9.keep x8.out) (by omega))
        have ay10 := Hid.mk' (as10.keep (am9.keep y8.out) (by omega))
        have av10 := Hid.mk' as10.box
        have aHB10 := Hid.mk' (as10.below _ _ (by omega) (am9.below _ _ (by omega) HB8.out))
        have ay10 := as10.size
        have ay9 := am9.lt
        have az10 : w8.heap.size < a10.heap.size := by omega
        have aqb : w.heap.size < w8.heap.size := b8.out.lt
        have aqt : w0.heap.size < w8.heap.size := t8.out.lt
        have aqx : w2.heap.size < w8.heap.size := x8.out.lt
        have aqy : w5.heap.size < w8.heap.size := y8.out.lt
        clear am9 as10 ay10 ay9
        have ahC : ∀ w', Below w8.heap.size a10 w' → w'.cell? ⟨w0.heap.size, 2, none⟩ = some (.int .i64 (k : Int)) := fun w' h => (at10.out.below h aqt).cell HT2.out
        have ahC1 : ∀ w', Below w8.heap.size a10 w' → w'.cell? ⟨w.heap.size, k, none⟩ = some (.int .u8 (st l k)) := fun w' h => (ab10.out.below h aqb).cell HE1.out
        have ahC2 : ∀ w', Below w8.heap.size a10 w' → w'.cell? ⟨w.heap.size, 256 + k, none⟩ = some (.int .u8 (st l (256 + k))) := fun w' h => (ab10.out.below h aqb).cell HE2.out
        have ahD1 : ∀ w', HasBox w' w8.heap.size 31 520 → w'.cell? ⟨w8.heap.size, k, none⟩ = some (cellAt w' w8.heap.size k) := fun w' h => h.cellAt (by omega)
        have ahD2 : ∀ w', HasBox w' w8.heap.size 31 520 → w'.cell? ⟨w8.heap.size, 256 + k, none⟩ = some (cellAt w' w8.heap.size (256 + k)) := fun w' h => h.cellAt (by omega)
        have ahF : ∀ w' j, HasBox w' w8.heap.size 31 520 → w'.frozen? ⟨w8.heap.size, j, none⟩ = false := fun w' j h => h.frozen j
        have aHK : Hid (Below w8.heap.size a10 a10.drew ∧ HasBox a10.drew w8.heap.size 31 520) := ⟨(Below.refl _ _).drew, la, av10.out.drew, HA.out.len⟩
        have aH7a := Hid.mk' (kept7d aHK.out k (.int .u8 (st l k)))
        have aH7b := Hid.mk' (kept7d aH7a.out (256 + k) (.int .u8 (st l (256 + k))))
        go_wp2_with fail
        go_region_held3 (fun w' => Below w8.heap.size a10 w' ∧ HasBox w' w8.heap.size 31 520) (first | with_reducible assumption | with_reducible exact aHK.out | with_reducible exact aH7a.out | with_reducible exact aH7b.out) (fail)
        have avq := Hid.mk' (((av10.out.setCell k (.int .u8 (st l k))).setCell (256 + k) (.int .u8 (st l (256 + k)))).drew)
        rw [HPA.out] at avq
        have abq := Hid.mk' (ab10.out.below aH7b.out.1 aqb)
        have atq := Hid.mk' (at10.out.below aH7b.out.1 aqt)
        have axq := Hid.mk' (ax10.out.below aH7b.out.1 aqx)
        have ayq := Hid.mk' (ay10.out.below aH7b.out.1 aqy)
        have aHBq := Hid.mk' (aHB10.out.trans (aH7b.out.1.mono (by omega)))
        have azq := aH7b.out.1.size
        clear ahC1 ahC2 ahD1 ahD2 ahF aHK aH7a aH7b aHB10 av10 ahC ab10 at10 ax10 ay10
        generalize ((a10.setCell ⟨w8.heap.size, k, none⟩ (.int .u8 (st l k))).setCell ⟨w8.heap.size, 256 + k, none⟩ (.int .u8 (st l (256 + k)))).drew = awq at *
        have hL17 := avq.out.lies0 HL.out.len
        have hR17 := avq.out.row0 HL.out.len
        have hL1 := abq.out.lies0 HL.out.len
        have hR1 := abq.out.row0 HL.out.len
        have hL2 := axq.out.lies0 HA.out.len
        have hR2 := axq.out.row0 HA.out.len
        have hH := HL.out.same
        have hc1 := atq.out.cell HT1.out
        have hLa := axq.out.lies (o := 256) (n := 256) (by rw [HA.out.len]; omega)
        have hRa := (axq.out.row (o := 256) (n := 256) (by rw [HA.out.len]; omega)).trans (show (la.drop 256).take 256 = (l.drop 256).take 256 from HPP.out)
        have hLn := abq.out.lies (o := 256) (n := 256) (by rw [HL.out.len]; omega)
        have hRn := abq.out.row (o := 256) (n := 256) (by rw [HL.out.len]; omega)
        have hSH := half_same HL.out (o := 256) (by omega)
        generalize ((l.drop 256).take 256) = X at *
        go_wp2_with fail
        refine (HRA.out _).mono ?_
        rintro e w12 ⟨rfl, h12⟩
        have b12 := Hid.mk' (abq.out.later h12)
        have y12 := Hid.mk' (ayq.out.later h12)
        have HB12 := Hid.mk' (aHBq.out.trans (h12.mono (by omega)))
        have z12 := h12.size
        have z13 : w.heap.size < w12.heap.size := b12.out.lt
        have z14 : w5.heap.size < w12.heap.size := y12.out.lt
        clear hL17 hR17 hL1 hR1 hL2 hR2 hH hc1 hLa hRa hLn hRn hSH h12 abq ayq axq atq avq aHBq
        go_wp2
        go_ret
        exact ⟨rfl, HB12.out⟩
    · rw [show decide (252 < cm) = false from decide_eq_false (by omega)] at HAok
      have hc2 : cm < 253 := by omega
      by_cases heb : eb = 0
      · subst hea
        obtain ⟨hr, k, r, hk, rfl, h0, h5, e1⟩ := HAok.out rfl
        have HE1 := Hid.mk' (HL.out.byte (show k < 512 by omega)).1
        have HE2 := Hid.mk' (HL.out.byte (show 256 + k < 512 by omega)).1
        have k0 : (0 : Int) ≤ (k : Int) := by omega
        have k1 : (k : Int) < 256 := by omega
        have HRA := Hid.mk' (NegRight_any la HA.out)
        rw [e1, right_put HL.out hr _ hk h5, ← e1] at HRA
        have HPA := Hid.mk' (put_back HL.out false hk r)
        rw [← e1] at HPA
        have HPP := Hid.mk' (put_part (l := l) false hk r)
        rw [← e1] at HPP
        clear e1
        subst heb
        obtain ⟨hrb, k2, rb2, hk2, rfl, hb0, hb5, e1⟩ := HBok.out rfl
        have HF1 := Hid.mk' (HL.out.byte (show k2 < 512 by omega)).1
        have HF2 := Hid.mk' (HL.out.byte (show 256 + k2 < 512 by omega)).1
        have j0 : (0 : Int) ≤ (k2 : Int) := by omega
        have j1 : (k2 : Int) < 256 := by omega
        have HRB := Hid.mk' (NegRight_any lb HB.out)
        rw [e1, right_put HL.out hrb _ hk2 hb5, ← e1] at HRB
        have HPB := Hid.mk' (put_back HL.out us hk2 rb2)
        rw [← e1] at HPB
        clear e1
        have hL1 := b8.out.lies0 HL.out.len
        have hR1 := b8.out.row0 HL.out.len
        have hH := HL.out.same
        have hL2 := x8.out.lies0 HA.out.len
        have hR2 := x8.out.row0 HA.out.len
        have hL3 := y8.out.lies0 HB.out.len
        have hR3 := y8.out.row0 HB.out.len
        go_wp2_with (with_reducible refine wpList_alloc z 31 HZ.out rfl rfl ?_)
        intro a9 am9
        clear hL1 hR1 hH hL2 hR2 hL3 hR3
        go_wp2_with (refine wpList_store_box 31 31 z la w8.heap.size HSA.out HA.out.one am9.box HNA.out rfl _ _ rfl rfl rfl ?_)
        intro a10 as10
        have ab10 := Hid.mk' (as10.keep (am9.keep b8.out) (by omega))
        have at10 := Hid.mk' (as10.keep (am9.keep t8.out) (by omega))
        have ax10 := Hid.mk' (as10.keep (am9.keep x8.out) (by omega))
        have ay10 := Hid.mk' (as10.keep (am9.keep y8.out) (by omega))
        have av10 := Hid.mk' as10.box
        have aHB10 := Hid.mk' (as10.below _ _ (by omega) (am9.below _ _ (by omega) HB8.out))
        have ay10 := as10.size
        have ay9 := am9.lt
        have az10 : w8.heap.size < a10.heap.size := by omega
        have aqb : w.heap.size < w8.heap.size := b8.out.lt
        have aqt : w0.heap.size < w8.heap.size := t8.out.lt
        have aqx : w2.heap.size < w8.heap.size := x8.out.lt
        have aqy : w5.heap.size < w8.heap.size := y8.out.lt
        clear am9 as10 ay10 ay9
        have ahC : ∀ w', Below w8.heap.size a10 w' → w'.cell? ⟨w0.heap.size, 2, none⟩ = some (.int .i64 (k : Int)) := fun w' h => (at10.out.below h aqt).cell HT2.out
        have ahC1 : ∀ w', Below w8.heap.size a10 w' → w'.cell? ⟨w.heap.size, k, none⟩ = some (.int .u8 (st l k)) := fun w' h => (ab10.out.below h aqb).cell HE1.out
        have ahC2 : ∀ w', Below w8.heap.size a10 w' → w'.cell? ⟨w.heap.size, 256 + k, none⟩ = some (.int .u8 (st l (256 + k))) := fun w' h => (ab10.out.below h aqb).cell HE2.out
        have ahD1 : ∀ w', HasBox w' w8.heap.size 31 520 → w'.cell? ⟨w8.heap.size, k, none⟩ = some (cellAt w' w8.heap.size k) := fun w' h => h.cellAt (by omega)
        have ahD2 : ∀ w', HasBox w' w8.heap.size 31 520 → w'.cell? ⟨w8.heap.size, 256 + k, none⟩ = some (cellAt w' w8.heap.size (256 + k)) := fun w' h => h.cellAt (by omega)
        have ahF : ∀ w' j, HasBox w' w8.heap.size 31 520 → w'.frozen? ⟨w8.heap.size, j, none⟩ = false := fun w' j h => h.frozen j
        have aHK : Hid (Below w8.heap.size a10 a10.drew ∧ HasBox a10.drew w8.heap.size 31 520) := ⟨(Below.refl _ _).drew, la, av10.out.drew, HA.out.len⟩
        have aH7a := Hid.mk' (kept7d aHK.out k (.int .u8 (st l k)))
        have aH7b := Hid.mk' (kept7d aH7a.out (256 + k) (.int .u8 (st l (256 + k))))
        go_wp2_with fail
        go_region_held3 (fun w' => Below w8.heap.size a10 w' ∧ HasBox w' w8.heap.size 31 520) (first | with_reducible assumption | with_reducible exact aHK.out | with_reducible exact aH7a.out | with_reducible exact aH7b.out) (fail)
        have avq := Hid.mk' (((av10.out.setCell k (.int .u8 (st l k))).setCell (256 + k) (.int .u8 (st l (256 + k)))).drew)
        rw [HPA.out] at avq
        have abq := Hid.mk' (ab10.out.below aH7b.out.1 aqb)
        have atq := Hid.mk' (at10.out.below aH7b.out.1 aqt)
        have axq := Hid.mk' (ax10.out.below aH7b.out.1 aqx)
        have ayq := Hid.mk' (ay10.out.below aH7b.out.1 aqy)
        have aHBq := Hid.mk' (aHB10.out.trans (aH7b.out.1.mono (by omega)))
        have azq := aH7b.out.1.size
        clear ahC1 ahC2 ahD1 ahD2 ahF aHK aH7a aH7b aHB10 av10 ahC ab10 at10 ax10 ay10
        generalize ((a10.setCell ⟨w8.heap.size, k, none⟩ (.int .u8 (st l k))).setCell ⟨w8.heap.size, 256 + k, none⟩ (.int .u8 (st l (256 + k)))).drew = awq at *
        have hL17 := avq.out.lies0 HL.out.len
        have hR17 := avq.out.row0 HL.out.len
        have hL1 := abq.out.lies0 HL.out.len
        have hR1 := abq.out.row0 HL.out.len
        have hL2 := axq.out.lies0 HA.out.len
        have hR2 := axq.out.row0 HA.out.len
        have hH := HL.out.same
        have hc1 := atq.out.cell HT1.out
        have hLa := axq.out.lies (o := 0) (n := 256) (by rw [HA.out.len]; omega)
        have hRa := (axq.out.row (o := 0) (n := 256) (by rw [HA.out.len]; omega)).trans (show (la.drop 0).take 256 = (l.drop 0).take 256 from HPP.out)
        have hLn := abq.out.lies (o := 0) (n := 256) (by rw [HL.out.len]; omega)
        have hRn := abq.out.row (o := 0) (n := 256) (by rw [HL.out.len]; omega)
        have hSH := half_same HL.out (o := 0) (by omega)
        generalize ((l.drop 0).take 256) = X at *
        go_wp2_with fail
        refine (HRA.out _).mono ?_
        rintro e w12 ⟨rfl, h12⟩
        have b12 := Hid.mk' (abq.out.later h12)
        have y12 := Hid.mk' (ayq.out.later h12)
        have HB12 := Hid.mk' (aHBq.out.trans (h12.mono (by omega)))
        have z12 := h12.size
        have z13 : w.heap.size < w12.heap.size := b12.out.lt
        have z14 : w5.heap.size < w12.heap.size := y12.out.lt
        clear hL17 hR17 hL1 hR1 hL2 hR2 hH hc1 hLa hRa hLn hRn hSH h12 abq ayq axq atq avq aHBq
        have hL3 := y12.out.lies0 HB.out.len
        have hR3 := y12.out.row0 HB.out.len
        go_wp2_with (with_reducible refine wpList_alloc z 31 HZ.out rfl rfl ?_)
        intro c9 cm9
        clear hL3 hR3
        go_wp2_with (refine wpList_store_box 31 31 z lb w12.heap.size HSB.out HB.out.one cm9.box HNB.out rfl _ _ rfl rfl rfl ?_)
        intro c10 cs10
        have cb10 := Hid.mk' (cs10.keep (cm9.keep b12.out) (by omega))
        have cy10 := Hid.mk' (cs10.keep (cm9.keep y12.out) (by omega))
        have cv10 := Hid.mk' cs10.box
        have cHB10 := Hid.mk' (cs10.below _ _ (by omega) (cm9.below _ _ (by omega) HB12.out))
        have cy10 := cs10.size
        have cy9 := cm9.lt
        have cz10 : w12.heap.size < c10.heap.size := by omega
        have cqb : w.heap.size < w12.heap.size := b12.out.lt
        have cqy : w5.heap.size < w12.heap.size := y12.out.lt
        clear cm9 cs10 cy10 cy9
        have chC1 : ∀ w', Below w12.heap.size c10 w' → w'.cell? ⟨w.heap.size, k2, none⟩ = some (.int .u8 (st l k2)) := fun w' h => (cb10.out.below h cqb).cell HF1.out
        have chC2 : ∀ w', Below w12.heap.size c10 w' → w'.cell? ⟨w.heap.size, 256 + k2, none⟩ = some (.int .u8 (st l (256 + k2))) := fun w' h => (cb10.out.below h cqb).cell HF2.out
        have chD1 : ∀ w', HasBox w' w12.heap.size 31 520 → w'.cell? ⟨w12.heap.size, k2, none⟩ = some (cellAt w' w12.heap.size k2) := fun w' h => h.cellAt (by omega)
        have chD2 : ∀ w', HasBox w' w12.heap.size 31 520 → w'.cell? ⟨w12.heap.size, 256 + k2, none⟩ = some (cellAt w' w12.heap.size (256 + k2)) := fun w' h => h.cellAt (by omega)
        have chF : ∀ w' j, HasBox w' w12.heap.size 31 520 → w'.frozen? ⟨w12.heap.size, j, none⟩ = false := fun w' j h => h.frozen j
        have cHK : Hid (Below w12.heap.size c10 c10.drew ∧ HasBox c10.drew w12.heap.size 31 520) := ⟨(Below.refl _ _).drew, lb, cv10.out.drew, HB.out.len⟩
        have cH7a := Hid.mk' (kept7d cHK.out k2 (.int .u8 (st l k2)))
        have cH7b := Hid.mk' (kept7d cH7a.out (256 + k2) (.int .u8 (st l (256 + k2))))
        go_wp2_with fail
        go_region_held3 (fun w' => Below w12.heap.size c10 w' ∧ HasBox w' w12.heap.size 31 520) (first | with_reducible assumption | with_reducible exact cHK.out | with_reducible exact cH7a.out | with_reducible exact cH7b.out) (fail)
        have cvq := Hid.mk' (((cv10.out.setCell k2 (.int .u8 (st l k2))).setCell (256 + k2) (.int .u8 (st l (256 + k2)))).drew)
        rw [HPB.out] at cvq
        have cbq := Hid.mk' (cb10.out.below cH7b.out.1 cqb)
        have cyq := Hid.mk' (cy10.out.below cH7b.out.1 cqy)
        have cHBq := Hid.mk' (cHB10.out.trans (cH7b.out.1.mono (by omega)))
        have czq := cH7b.out.1.size
        clear chC1 chC2 chD1 chD2 chF cHK cH7a cH7b cHB10 cv10 cb10 cy10
        generalize ((c10.setCell ⟨w12.heap.size, k2, none⟩ (.int .u8 (st l k2))).setCell ⟨w12.heap.size, 256 + k2, none⟩ (.int .u8 (st l (256 + k2)))).drew = cwq at *
        have hL18 := cvq.out.lies0 HL.out.len
        have hR18 := cvq.out.row0 HL.out.len
        have hL1 := cbq.out.lies0 HL.out.len
        have hR1 := cbq.out.row0 HL.out.len
        have hL3 := cyq.out.lies0 HB.out.len
        have hR3 := cyq.out.row0 HB.out.len
        have hH := HL.out.same
        go_wp2_with fail
        refine (HRB.out _).mono ?_
        rintro e w15 ⟨rfl, h15⟩
        have HB15 := Hid.mk' (cHBq.out.trans (h15.mono (by omega)))
        clear hL18 hR18 hL1 hR1 hL3 hR3 hH h15
        go_wp2
        go_ret
        exact ⟨rfl, HB15.out⟩
      · subst hea
        obtain ⟨hr, k, r, hk, rfl, h0, h5, e1⟩ := HAok.out rfl
        have HE1 := Hid.mk' (HL.out.byte (show k < 512 by omega)).1
        have HE2 := Hid.mk' (HL.out.byte (show 256 + k < 512 by omega)).1
        have k0 : (0 : Int) ≤ (k : Int) := by omega
        have k1 : (k : Int) < 256 := by omega
        have HRA := Hid.mk' (NegRight_any la HA.out)
        rw [e1, right_put HL.out hr _ hk h5, ← e1] at HRA
        have HPA := Hid.mk' (put_back HL.out false hk r)
        rw [← e1] at HPA
        have HPP := Hid.mk' (put_part (l := l) false hk r)
        rw [← e1] at HPP
        clear e1
        obtain ⟨e1, e2⟩ := HBer.out heb
        have e3 := e1.symm
        subst e3
        subst e2
        have hL1 := b8.out.lies0 HL.out.len
        have hR1 := b8.out.row0 HL.out.len
        have hH := HL.out.same
        have hL2 := x8.out.lies0 HA.out.len
        have hR2 := x8.out.row0 HA.out.len
        have hL3 := y8.out.lies0 HL.out.len
        have hR3 := y8.out.row0 HL.out.len
        go_wp2_with (with_reducible refine wpList_alloc z 31 HZ.out rfl rfl ?_)
        intro a9 am9
        clear hL1 hR1 hH hL2 hR2 hL3 hR3
        go_wp2_with (refine wpList_store_box 31 31 z la w8.heap.size HSA.out HA.out.one am9.box HNA.out rfl _ _ rfl rfl rfl ?_)
        intro a10 as10
        have ab10 := Hid.mk' (as10.keep (am9.keep b8.out) (by omega))
        have at10 := Hid.mk' (as10.keep (am9.keep t8.out) (by omega))
        have ax10 := Hid.mk' (as10.keep (am9.keep x8.out) (by omega))
        have ay10 := Hid.mk' (as10.keep (am9.keep y8.out) (by omega))
        have av10 := Hid.mk' as10.box
        have aHB10 := Hid.mk' (as10.below _ _ (by omega) (am9.below _ _ (by omega) HB8.out))
        have ay10 := as10.size
        have ay9 := am9.lt
        have az10 : w8.heap.size < a10.heap.size := by omega
        have aqb : w.heap.size < w8.heap.size := b8.out.lt
        have aqt : w0.heap.size < w8.heap.size := t8.out.lt
        have aqx : w2.heap.size < w8.heap.size := x8.out.lt
        have aqy : w5.heap.size < w8.heap.size := y8.out.lt
        clear am9 as10 ay10 ay9
        have ahC : ∀ w', Below w8.heap.size a10 w' → w'.cell? ⟨w0.heap.size, 2, none⟩ = some (.int .i64 (k : Int)) := fun w' h => (at10.out.below h aqt).cell HT2.out
        have ahC1 : ∀ w', Below w8.heap.size a10 w' → w'.cell? ⟨w.heap.size, k, none⟩ = some (.int .u8 (st l k)) := fun w' h => (ab10.out.below h aqb).cell HE1.out
        have ahC2 : ∀ w', Below w8.heap.size a10 w' → w'.cell? ⟨w.heap.size, 256 + k, none⟩ = some (.int .u8 (st l (256 + k))) := fun w' h => (ab10.out.below h aqb).cell HE2.out
        have ahD1 : ∀ w', HasBox w' w8.heap.size 31 520 → w'.cell? ⟨w8.heap.size, k, none⟩ = some (cellAt w' w8.heap.size k) := fun w' h => h.cellAt (by omega)
        have ahD2 : ∀ w', HasBox w' w8.heap.size 31 520 → w'.cell? ⟨w8.heap.size, 256 + k, none⟩ = some (cellAt w' w8.heap.size (256 + k)) := fun w' h => h.cellAt (by omega)
        have ahF : ∀ w' j, HasBox w' w8.heap.size 31 520 → w'.frozen? ⟨w8.heap.size, j, none⟩ = false := fun w' j h => h.frozen j
        have aHK : Hid (Below w8.heap.size a10 a10.drew ∧ HasBox a10.drew w8.heap.size 31 520) := ⟨(Below.refl _ _).drew, la, av10.out.drew, HA.out.len⟩
        have aH7a := Hid.mk' (kept7d aHK.out k (.int .u8 (st l k)))
        have aH7b := Hid.mk' (kept7d aH7a.out (256 + k) (.int .u8 (st l (256 + k))))
        go_wp2_with fail
        go_region_held3 (fun w' => Below w8.heap.size a10 w' ∧ HasBox w' w8.heap.size 31 520) (first | with_reducible assumption | with_reducible exact aHK.out | with_reducible exact aH7a.out | with_reducible exact aH7b.out) (fail)
        have avq := Hid.mk' (((av10.out.setCell k (.int .u8 (st l k))).setCell (256 + k) (.int .u8 (st l (256 + k)))).drew)
        rw [HPA.out] at avq
        have abq := Hid.mk' (ab10.out.below aH7b.out.1 aqb)
        have atq := Hid.mk' (at10.out.below aH7b.out.1 aqt)
        have axq := Hid.mk' (ax10.out.below aH7b.out.1 aqx)
        have ayq := Hid.mk' (ay10.out.below aH7b.out.1 aqy)
        have aHBq := Hid.mk' (aHB10.out.trans (aH7b.out.1.mono (by omega)))
        have azq := aH7b.out.1.size
        clear ahC1 ahC2 ahD1 ahD2 ahF aHK aH7a aH7b aHB10 av10 ahC ab10 at10 ax10 ay10
        generalize ((a10.setCell ⟨w8.heap.size, k, none⟩ (.int .u8 (st l k))).setCell ⟨w8.heap.size, 256 + k, none⟩ (.int .u8 (st l (256 + k)))).drew = awq at *
        have hL17 := avq.out.lies0 HL.out.len
        have hR17 := avq.out.row0 HL.out.len
        have hL1 := abq.out.lies0 HL.out.len
        have hR1 := abq.out.row0 HL.out.len
        have hL2 := axq.out.lies0 HA.out.len
        have hR2 := axq.out.row0 HA.out.len
        have hH := HL.out.same
        have hc1 := atq.out.cell HT1.out
        have hLa := axq.out.lies (o := 0) (n := 256) (by rw [HA.out.len]; omega)
        have hRa := (axq.out.row (o := 0) (n := 256) (by rw [HA.out.len]; omega)).trans (show (la.drop 0).take 256 = (l.drop 0).take 256 from HPP.out)
        have hLn := abq.out.lies (o := 0) (n := 256) (by rw [HL.out.len]; omega)
        have hRn := abq.out.row (o := 0) (n := 256) (by rw [HL.out.len]; omega)
        have hSH := half_same HL.out (o := 0) (by omega)
        generalize ((l.drop 0).take 256) = X at *
        go_wp2_with fail
        refine (HRA.out _).mono ?_
        rintro e w12 ⟨rfl, h12⟩
        have b12 := Hid.mk' (abq.out.later h12)
        have y12 := Hid.mk' (ayq.out.later h12)
        have HB12 := Hid.mk' (aHBq.out.trans (h12.mono (by omega)))
        have z12 := h12.size
        have z13 : w.heap.size < w12.heap.size := b12.out.lt
        have z14 : w5.heap.size < w12.heap.size := y12.out.lt
        clear hL17 hR17 hL1 hR1 hL2 hR2 hH hc1 hLa hRa hLn hRn hSH h12 abq ayq axq atq avq aHBq
        go_wp2
        go_ret
        exact ⟨rfl, HB12.out⟩
  · by_cases heb : eb = 0
    · obtain ⟨e1, e2⟩ := HAer.out hea
      have e3 := e1.symm
      subst e3
      subst e2
      subst heb
      obtain ⟨hrb, k2, rb2, hk2, rfl, hb0, hb5, e1⟩ := HBok.out rfl
      have HF1 := Hid.mk' (HL.out.byte (show k2 < 512 by omega)).1
      have HF2 := Hid.mk' (HL.out.byte (show 256 + k2 < 512 by omega)).1
      have j0 : (0 : Int) ≤ (k2 : Int) := by omega
      have j1 : (k2 : Int) < 256 := by omega
      have HRB := Hid.mk' (NegRight_any lb HB.out)
      rw [e1, right_put HL.out hrb _ hk2 hb5, ← e1] at HRB
      have HPB := Hid.mk' (put_back HL.out us hk2 rb2)
      rw [← e1] at HPB
      clear e1
      have hL1 := b8.out.lies0 HL.out.len
      have hR1 := b8.out.row0 HL.out.len
      have hH := HL.out.same
      have hL2 := x8.out.lies0 HL.out.len
      have hR2 := x8.out.row0 HL.out.len
      have hL3 := y8.out.lies0 HB.out.len
      have hR3 := y8.out.row0 HB.out.len
      go_wp2_with (with_reducible refine wpList_alloc z 31 HZ.out rfl rfl ?_)
      intro c9 cm9
      clear hL1 hR1 hH hL2 hR2 hL3 hR3
      go_wp2_with (refine wpList_store_box 31 31 z lb w8.heap.size HSB.out HB.out.one cm9.box HNB.out rfl _ _ rfl rfl rfl ?_)
      intro c10 cs10
      have cb10 := Hid.mk' (cs10.keep (cm9.keep b8.out) (by omega))
      have cy10 := Hid.mk' (cs10.keep (cm9.keep y8.out) (by omega))
      have cv10 := Hid.mk' cs10.box
      have cHB10 := Hid.mk' (cs10.below _ _ (by omega) (cm9.below _ _ (by omega) HB8.out))
      have cy10 := cs10.size
      have cy9 := cm9.lt
      have cz10 : w8.heap.size < c10.heap.size := by omega
      have cqb : w.heap.size < w8.heap.size := b8.out.lt
      have cqy : w5.heap.size < w8.heap.size := y8.out.lt
      clear cm9 cs10 cy10 cy9
      have chC1 : ∀ w', Below w8.heap.size c10 w' → w'.cell? ⟨w.heap.size, k2, none⟩ = some (.int .u8 (st l k2)) := fun w' h => (cb10.out.below h cqb).cell HF1.out
      have chC2 : ∀ w', Below w8.heap.size c10 w' → w'.cell? ⟨w.heap.size, 256 + k2, none⟩ = some (.int .u8 (st l (256 + k2))) := fun w' h => (cb10.out.below h cqb).cell HF2.out
      have chD1 : ∀ w', HasBox w' w8.heap.size 31 520 → w'.cell? ⟨w8.heap.size, k2, none⟩ = some (cellAt w' w8.heap.size k2) := fun w' h => h.cellAt (by omega)
      have chD2 : ∀ w', HasBox w' w8.heap.size 31 520 → w'.cell? ⟨w8.heap.size, 256 + k2, none⟩ = some (cellAt w' w8.heap.size (256 + k2)) := fun w' h => h.cellAt (by omega)
      have chF : ∀ w' j, HasBox w' w8.heap.size 31 520 → w'.frozen? ⟨w8.heap.size, j, none⟩ = false := fun w' j h => h.frozen j
      have cHK : Hid (Below w8.heap.size c10 c10.drew ∧ HasBox c10.drew w8.heap.size 31 520) := ⟨(Below.refl _ _).drew, lb, cv10.out.drew, HB.out.len⟩
      have cH7a := Hid.mk' (kept7d cHK.out k2 (.int .u8 (st l k2)))
      have cH7b := Hid.mk' (kept7d cH7a.out (256 + k2) (.int .u8 (st l (256 + k2))))
      go_wp2_with fail
      go_region_held3 (fun w' => Below w8.heap.size c10 w' ∧ HasBox w' w8.heap.size 31 520) (first | with_reducible assumption | with_reducible exact cHK.out | with_reducible exact cH7a.out | with_reducible exact cH7b.out) (fail)
      have cvq := Hid.mk' (((cv10.out.setCell k2 (.int .u8 (st l k2))).setCell (256 + k2) (.int .u8 (st l (256 + k2)))).drew)
      rw [HPB.out] at cvq
      have cbq := Hid.mk' (cb10.out.below cH7b.out.1 cqb)
      have cyq := Hid.mk' (cy10.out.below cH7b.out.1 cqy)
      have cHBq := Hid.mk' (cHB10.out.trans (cH7b.out.1.mono (by omega)))
      have czq := cH7b.out.1.size
      clear chC1 chC2 chD1 chD2 chF cHK cH7a cH7b cHB10 cv10 cb10 cy10
      generalize ((c10.setCell ⟨w8.heap.size, k2, none⟩ (.int .u8 (st l k2))).setCell ⟨w8.heap.size, 256 + k2, none⟩ (.int .u8 (st l (256 + k2)))).drew = cwq at *
      have hL18 := cvq.out.lies0 HL.out.len
      have hR18 := cvq.out.row0 HL.out.len
      have hL1 := cbq.out.lies0 HL.out.len
      have hR1 := cbq.out.row0 HL.out.len
      have hL3 := cyq.out.lies0 HB.out.len
      have hR3 := cyq.out.row0 HB.out.len
      have hH := HL.out.same
      go_wp2_with fail
      refine (HRB.out _).mono ?_
      rintro e w15 ⟨rfl, h15⟩
      have HB15 := Hid.mk' (cHBq.out.trans (h15.mono (by omega)))
      clear hL18 hR18 hL1 hR1 hL3 hR3 hH h15
      go_wp2
      go_ret
      exact ⟨rfl, HB15.out⟩
    · obtain ⟨e1, e2⟩ := HAer.out hea
      have e3 := e1.symm
      subst e3
      subst e2
      obtain ⟨e1, e2⟩ := HBer.out heb
      have e3 := e1.symm
      subst e3
      subst e2
      have hL1 := b8.out.lies0 HL.out.len
      have hR1 := b8.out.row0 HL.out.len
      have hH := HL.out.same
      have hL2 := x8.out.lies0 HL.out.len
      have hR2 := x8.out.row0 HL.out.len
      have hL3 := y8.out.lies0 HL.out.len
      have hR3 := y8.out.row0 HL.out.len
      go_wp2
      go_ret
      exact ⟨rfl, HB8.out⟩
end Go.Proofs.Ytfehlfjondelnab.Q
