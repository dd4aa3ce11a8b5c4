/-
  Contract of qneg.Take: whatever the cells of the Neg and of the token.
-/
import Derived.Test.YtfehlfjondelnabQSay
import Derived.Test.YtfehlfjondelnabQRow0
namespace Go.Proofs.Ytfehlfjondelnab.Q
open Go.RowKit Go.Proofs.Ytfehlfjondelnab

theorem exec_load32 (ρ : Operand → Value) (x : Operand) (dst : Option Tmp) (t : TypeId) (pos : String) (af : Array Edge) (g : Option (Nat × Bool)) (w : World) (h : Lies w (ρ x) 520) :
    (execOp ρ { dst := dst, op := .load 31 x, type := t, pos := pos, after := af, guard := g }).run Try.prog w = .ok (.value (.agg (rowAt w (ρ x) 520).toArray)) w :=
  exec_load 31 520 _ Try.underlying31 rfl size32 ρ x dst t pos af g w h
theorem exec_store32 (ρ : Operand → Value) (x y : Operand) (dst : Option Tmp) (t : TypeId) (pos : String) (af : Array Edge) (g : Option (Nat × Bool)) (w : World) (h : Lies w (ρ x) 520) (hy : Holds (ρ y) 520) :
    (execOp ρ { dst := dst, op := .store 31 x y, type := t, pos := pos, after := af, guard := g }).run Try.prog w = .ok .skip (putAt w (ρ x) (ρ y)) :=
  exec_store 31 520 size32 ρ x y dst t pos af g w h hy

theorem NegL.holds {l : List Value} (h : NegL l) : Holds (.agg l.toArray) 520 := ⟨l, rfl, h.len, h.one⟩

theorem hear_bd {s : Int} (on ag : Bool) (h0 : 0 ≤ s) (h1 : s < 256) : 0 ≤ (hear s on ag).1 ∧ (hear s on ag).1 < 256 := by
  unfold hear
  repeat' split
  all_goals first | exact ⟨by decide, by decide⟩ | exact ⟨h0, h1⟩

/-- what the walk of a drawn region keeps -/
theorem kept8 {w0 wX w' : World} {b1 b2 j n : Nat} {l : List Value} {v : Value}
    (hS : (Lies wX (.pointer (some ⟨b1, 0, none⟩)) n ∧ rowAt wX (.pointer (some ⟨b1, 0, none⟩)) n = l ∧ wX.cell? ⟨b2, j, none⟩ = some v) ∧ Below w0.heap.size w0 wX ∧ (b1 < w0.heap.size ∧ b2 < w0.heap.size)) (hb : Below wX.heap.size wX w') :
    (Lies w' (.pointer (some ⟨b1, 0, none⟩)) n ∧ rowAt w' (.pointer (some ⟨b1, 0, none⟩)) n = l ∧ w'.cell? ⟨b2, j, none⟩ = some v) ∧ Below w0.heap.size w0 w' ∧ (b1 < w0.heap.size ∧ b2 < w0.heap.size) := by
  obtain ⟨⟨⟨b, o, e, hc⟩, hr, hv⟩, h0, hlt1, hlt2⟩ := hS
  have hz := h0.size
  simp only [Value.pointer.injEq, Option.some.injEq, Addr.mk.injEq] at e
  obtain ⟨rfl, rfl, _⟩ := e
  have hcl : ∀ j, w'.cell? ⟨b1, j, none⟩ = wX.cell? ⟨b1, j, none⟩ := fun j => hb.cell (p := ⟨b1, j, none⟩) (show b1 < wX.heap.size by omega)
  have hfl : ∀ j, w'.frozen? ⟨b1, j, none⟩ = wX.frozen? ⟨b1, j, none⟩ := fun j => hb.frozen (p := ⟨b1, j, none⟩) (show b1 < wX.heap.size by omega)
  refine ⟨⟨⟨b1, 0, rfl, fun j hj => by rw [hcl, hfl]; exact hc j hj⟩, ?_, ?_⟩, h0.trans (hb.mono hz), hlt1, hlt2⟩
  · rw [← hr]
    unfold rowAt
    simp only [hcl]
  · rw [hb.cell (p := ⟨b2, j, none⟩) (show b2 < wX.heap.size by omega)]
    exact hv

/-- a block of n cells -/
def HasBox (w : World) (b : Nat) (t : TypeId) (n : Nat) : Prop := ∃ q : List Value, Box w b t q ∧ q.length = n
theorem HasBox.lies {w : World} {b : Nat} {t : TypeId} {n : Nat} (h : HasBox w b t n) : Lies w (.pointer (some ⟨b, 0, none⟩)) n := by
  obtain ⟨q, hq, hn⟩ := h
  exact hq.lies0 hn
theorem HasBox.later {w w' : World} {b : Nat} {t : TypeId} {n : Nat} (h : HasBox w b t n) (hb : Below w.heap.size w w') : HasBox w' b t n := by
  obtain ⟨q, hq, hn⟩ := h
  exact ⟨q, hq.later hb, hn⟩
theorem HasBox.lt {w : World} {b : Nat} {t : TypeId} {n : Nat} (h : HasBox w b t n) : b < w.heap.size := by
  obtain ⟨q, hq, hn⟩ := h
  exact hq.lt
theorem HasBox.put {w : World} {b : Nat} {t : TypeId} {n : Nat} (h : HasBox w b t n) (cs : List Value) (hn : cs.length = n) : Stored w (putAt w (.pointer (some ⟨b, 0, none⟩)) (.agg cs.toArray)) b t cs := by
  obtain ⟨q, hq, hl⟩ := h
  exact hq.putAt cs (by omega)
/-- what the walk of a drawn region with a store keeps -/
theorem kept9 {w0 wX w' : World} {b : Nat} {t : TypeId} {n : Nat} (hS : Below b w0 wX ∧ HasBox wX b t n) (hb : Below wX.heap.size wX w') : Below b w0 w' ∧ HasBox w' b t n :=
  ⟨hS.1.trans (hb.mono (Nat.le_of_lt hS.2.lt)), hS.2.later hb⟩
theorem kept9s {w0 wX : World} {b : Nat} {t : TypeId} {n : Nat} {cs : List Value} (hS : Below b w0 wX ∧ HasBox wX b t n) (hn : cs.length = n) : Below b w0 (putAt wX (.pointer (some ⟨b, 0, none⟩)) (.agg cs.toArray)) ∧ HasBox (putAt wX (.pointer (some ⟨b, 0, none⟩)) (.agg cs.toArray)) b t n :=
  have := hS.2.put cs hn
  ⟨this.below _ _ (Nat.le_refl _) hS.1, cs, this.box, hn⟩

attribute [local go_sem ↓] exec_load32 exec_store32

def RNeg (l : List Value) (s : List UInt8) (e : Int) : Value := .tuple #[.agg l.toArray, .string ⟨s.toArray⟩, .int .i64 e]

set_option maxHeartbeats 4000000 in
theorem Take_form (l : List Value) (hl : NegL l) (hr : right l = false) (kd cm op : Int) (d : ByteArray) (w : World) :
    Calls Try.prog 7 #[.agg l.toArray, .agg (tok kd cm op d).toArray] w fun e w' => e = .returned (RNeg l [] 4) ∧ Below w.heap.size w w' := by
  obtain ⟨z, hz, hzw⟩ := zero32
  have HZ := Hid.mk' hzw
  have HC := Hid.mk' (Check_any l hl)
  rw [hr] at HC
  have HL := Hid.mk' hl
  have HS : Hid ((Try.prog.info? 31).map (·.size) = some l.length) := by rw [hl.len]; exact size32
  have HN : Hid (z.length = l.length) := hz.len.trans hl.len.symm
  generalize tok kd cm op d = T at *
  clear hzw hl hz hr
  go_enter Try.func7, Try.ntmps7
  go_wp2_with (refine wpList_box l 31 rfl _ rfl rfl ?_)
  intro w1 m1
  go_wp2_with (refine wpList_box T 33 rfl _ rfl rfl ?_)
  intro w2 m2
  go_wp2_with (refine wpList_alloc z 31 HZ.out rfl rfl ?_)
  intro w3 m3
  have z1 := m1.lt
  have z2 := m2.lt
  have z3 := m3.lt
  have b3 := m3.keep (m2.keep m1.box)
  have HB3 := Hid.mk' (m3.below w.heap.size w (by omega) (m2.below _ _ (by omega) (m1.below _ _ (Nat.le_refl _) (Below.refl _ w))))
  go_wp2_with (refine wpList_load_box 31 31 l w.heap.size _ Try.underlying31 rfl HS.out b3 rfl _ rfl rfl ?_)
  refine (HC.out _).mono ?_
  rintro e w4 ⟨rfl, h4⟩
  have b4 := b3.later h4
  have r4 := m3.box.later h4
  have HB4 := Hid.mk' (HB3.out.trans (h4.mono (by omega)))
  have hle : w.heap.size ≤ w2.heap.size := by omega
  clear z1 z2 z3 b3 h4 m1 m2 m3
  go_wp2_with (first | (refine wpList_load_box 31 31 l w.heap.size _ Try.underlying31 rfl HS.out b4 rfl _ rfl rfl ?_) | (refine wpList_store_box 31 31 z l w2.heap.size HS.out HL.out.one r4 HN.out rfl _ _ rfl rfl rfl ?_))
  intro w5 s5
  go_wp2
  exact ret_box3 Try.results7 31 l w2.heap.size _ Try.underlying31 rfl HS.out _ _ rfl rfl rfl s5.box rfl ⟨rfl, s5.below _ _ hle HB4.out⟩

theorem size34 : (Try.prog.info? 33).map (·.size) = some 4 := by kernel_rfl

set_option maxHeartbeats 4000000 in
theorem Take_arg (l : List Value) (hl : NegL l) (hr : right l = true) (kd cm op : Int) (d : ByteArray) (hi : isSay kd cm op d = false) (w : World) :
    Calls Try.prog 7 #[.agg l.toArray, .agg (tok kd cm op d).toArray] w fun e w' => e = .returned (RNeg l [] 1) ∧ Below w.heap.size w w' := by
  obtain ⟨z, hz, hzw⟩ := zero32
  have HZ := Hid.mk' hzw
  have HC := Hid.mk' (Check_any l hl)
  rw [hr] at HC
  have HI := Hid.mk' (Takes_any kd cm op d)
  rw [hi] at HI
  have HL := Hid.mk' hl
  have HS : Hid ((Try.prog.info? 31).map (·.size) = some l.length) := by rw [hl.len]; exact size32
  have HT : Hid ((Try.prog.info? 33).map (·.size) = some (tok kd cm op d).length) := size34
  have HN : Hid (z.length = l.length) := hz.len.trans hl.len.symm
  generalize tok kd cm op d = T at *
  clear hzw hl hz hr hi
  go_enter Try.func7, Try.ntmps7
  go_wp2_with (refine wpList_box l 31 rfl _ rfl rfl ?_)
  intro w1 m1
  go_wp2_with (refine wpList_box T 33 rfl _ rfl rfl ?_)
  intro w2 m2
  go_wp2_with (refine wpList_alloc z 31 HZ.out rfl rfl ?_)
  intro w3 m3
  have z1 := m1.lt
  have z2 := m2.lt
  have z3 := m3.lt
  have b3 := m3.keep (m2.keep m1.box)
  have t3 := m3.keep m2.box
  have HB3 := Hid.mk' (m3.below w.heap.size w (by omega) (m2.below _ _ (by omega) (m1.below _ _ (Nat.le_refl _) (Below.refl _ w))))
  go_wp2_with (refine wpList_load_box 31 31 l w.heap.size _ Try.underlying31 rfl HS.out b3 rfl _ rfl rfl ?_)
  refine (HC.out _).mono ?_
  rintro e w4 ⟨rfl, h4⟩
  have b4 := b3.later h4
  have t4 := t3.later h4
  have r4 := m3.box.later h4
  have HB4 := Hid.mk' (HB3.out.trans (h4.mono (by omega)))
  have z4 := h4.size
  clear b3 h4 m1 m2 m3 t3
  go_wp2_with (refine wpList_load_box 33 33 T w1.heap.size _ Try.underlying33 rfl HT.out t4 rfl _ rfl rfl ?_)
  refine (HI.out _).mono ?_
  rintro e w5 ⟨rfl, h5⟩
  have b5 := b4.later h5
  have r5 := r4.later h5
  have HB5 := Hid.mk' (HB4.out.trans (h5.mono (by omega)))
  have hle : w.heap.size ≤ w2.heap.size := by omega
  clear z1 z2 z3 z4 h5 b4 t4 r4
  go_wp2_with (first | (refine wpList_load_box 31 31 l w.heap.size _ Try.underlying31 rfl HS.out b5 rfl _ rfl rfl ?_) | (refine wpList_store_box 31 31 z l w2.heap.size HS.out HL.out.one r5 HN.out rfl _ _ rfl rfl rfl ?_))
  intro w6 s6
  go_wp2
  exact ret_box3 Try.results7 31 l w2.heap.size _ Try.underlying31 rfl HS.out _ _ rfl rfl rfl s6.box rfl ⟨rfl, s6.below _ _ hle HB5.out⟩

/-- the command by which an end is told -/
def cmdI (us on : Bool) : Int := if us then (if on then 253 else 254) else (if on then 251 else 252)

set_option maxHeartbeats 8000000 in
theorem Take_ok (l : List Value) (hl : NegL l) (hr : right l = true) (us on : Bool) (k : Nat) (hk : k < 256) (d : ByteArray) (hd : d.toList.isEmpty = true) (w : World) (r1 r2 : Int) (r3 : Bool) (hh : hear (st l (place us k)) on (may l us k) = (r1, r2, r3)) :
    Calls Try.prog 7 #[.agg l.toArray, .agg (tok 3 (cmdI us on) (k : Int) d).toArray] w fun e w' => e = .returned (RNeg (putSt l us k r1) (word us r2 k) 0) ∧ Below w.heap.size w w' := by
  obtain ⟨z, hz, hzw⟩ := zero32
  have HZ := Hid.mk' hzw
  have HC := Hid.mk' (Check_any l hl)
  rw [hr] at HC
  have hi : isSay 3 (cmdI us on) (k : Int) d = true := by
    unfold isSay
    rw [hd, Bool.and_true]
    refine decide_eq_true ⟨rfl, ?_, by omega, by omega⟩
    cases us <;> cases on <;> decide
  have HI := Hid.mk' (Takes_any 3 (cmdI us on) k d)
  rw [hi] at HI
  have hb := hl.byte (place_lt us hk)
  have hbd := hear_bd on (may l us k) hb.2.1 hb.2.2
  rw [hh] at hbd
  have HST := Hid.mk' (stateOf_any l hl us k hk)
  have HMA := Hid.mk' (mayBeOn_any l hl us k hk)
  have HHE := Hid.mk' (Hear_any (st l (place us k)) on (may l us k))
  rw [hh] at HHE
  unfold RHear at HHE
  have HWS := Hid.mk' (withState_any l hl us k hk r1 hbd.1 hbd.2)
  have HSA := Hid.mk' (saying_any us r2 k hk)
  have HP := Hid.mk' (hl.put us hk hbd.1 hbd.2)
  have HS : Hid ((Try.prog.info? 31).map (·.size) = some l.length) := by rw [hl.len]; exact size32
  have HS' : Hid ((Try.prog.info? 31).map (·.size) = some (putSt l us k r1).length) := by rw [HP.out.len]; exact size32
  have HT : Hid ((Try.prog.info? 33).map (·.size) = some (tok 3 (cmdI us on) k d).length) := size34
  have HN : Hid (z.length = (putSt l us k r1).length) := hz.len.trans HP.out.len.symm
  have HLN := Hid.mk' hl.len
  have HZN := Hid.mk' hz.len
  have HTB : Hid ((tok 3 (cmdI us on) k d)[1]? = some (.int .i64 (cmdI us on)) ∧ (tok 3 (cmdI us on) k d)[2]? = some (.int .i64 (k : Int))) := ⟨rfl, rfl⟩
  generalize st l (place us k) = s at *
  generalize may l us k = m at *
  generalize putSt l us k r1 = l' at *
  generalize word us r2 k = wd at *
  generalize tok 3 (cmdI us on) k d = T at *
  clear hzw hl hz hr hi hb hbd hh hd
  have k0 : (0 : Int) ≤ (k : Int) := by omega
  have k1 : (k : Int) < 256 := by omega
  cases us <;> cases on
  all_goals
    simp only [cmdI] at HTB
    go_enter Try.func7, Try.ntmps7
    go_wp2_with (refine wpList_box l 31 rfl _ rfl rfl ?_)
    intro w1 m1
    go_wp2_with (refine wpList_box T 33 rfl _ rfl rfl ?_)
    intro w2 m2
    go_wp2_with (refine wpList_alloc z 31 HZ.out rfl rfl ?_)
    intro w3 m3
    have z1 := m1.lt
    have z2 := m2.lt
    have z3 := m3.lt
    have b3 := m3.keep (m2.keep m1.box)
    have t3 := m3.keep m2.box
    have HB3 := Hid.mk' (m3.below w.heap.size w (by omega) (m2.below _ _ (by omega) (m1.below _ _ (Nat.le_refl _) (Below.refl _ w))))
    go_wp2_with (refine wpList_load_box 31 31 l w.heap.size _ Try.underlying31 rfl HS.out b3 rfl _ rfl rfl ?_)
    refine (HC.out _).mono ?_
    rintro e w4 ⟨rfl, h4⟩
    have b4 := b3.later h4
    have t4 := t3.later h4
    have r4 := m3.box.later h4
    have HB4 := Hid.mk' (HB3.out.trans (h4.mono (by omega)))
    have z4 := h4.size
    clear b3 h4 m1 m2 m3 t3
    go_wp2_with (refine wpList_load_box 33 33 T w1.heap.size _ Try.underlying33 rfl HT.out t4 rfl _ rfl rfl ?_)
    refine (HI.out _).mono ?_
    rintro e w5 ⟨rfl, h5⟩
    have b5 := b4.later h5
    have r5 := r4.later h5
    have t5 := t4.later h5
    have HB5 := Hid.mk' (HB4.out.trans (h5.mono (by omega)))
    have hle : w.heap.size ≤ w2.heap.size := by omega
    have c1 := t5.cell HTB.out.1
    have c2 := t5.cell HTB.out.2
    have q1 : w.heap.size < w2.heap.size := by omega
    have q2 : w1.heap.size < w2.heap.size := by omega
    have hw5 : w.heap.size ≤ w5.heap.size := by have := h5.size; omega
    have H8 : Hid ((Lies w5.drew (.pointer (some ⟨w.heap.size, 0, none⟩)) 520 ∧ rowAt w5.drew (.pointer (some ⟨w.heap.size, 0, none⟩)) 520 = l ∧ w5.drew.cell? ⟨w1.heap.size, 2, none⟩ = some (.int .i64 (k : Int))) ∧ Below w5.heap.size w5 w5.drew ∧ (w.heap.size < w5.heap.size ∧ w1.heap.size < w5.heap.size)) :=
      ⟨⟨b5.drew.lies0 HLN.out, b5.drew.row0 HLN.out, t5.drew.cell HTB.out.2⟩, (Below.refl _ _).drew, b5.lt, t5.lt⟩
    clear z1 z2 z3 z4 h5 b4 t4 r4
    go_wp2_with fail
    go_region_held3 (fun w' => (Lies w' (.pointer (some ⟨w.heap.size, 0, none⟩)) 520 ∧ rowAt w' (.pointer (some ⟨w.heap.size, 0, none⟩)) 520 = l ∧ w'.cell? ⟨w1.heap.size, 2, none⟩ = some (.int .i64 (k : Int))) ∧ Below w5.heap.size w5 w' ∧ (w.heap.size < w5.heap.size ∧ w1.heap.size < w5.heap.size)) (first | assumption | exact H8.out | (refine kept8 ?_ hb; assumption)) (first | (go_at_call 16; refine (HST.out _).mono ?_; rintro e wx ⟨rfl, hb⟩) | (go_at_call 17; refine (HMA.out _).mono ?_; rintro e wx ⟨rfl, hb⟩) | (go_at_call 15; refine (HHE.out _).mono ?_; rintro e wy ⟨rfl, rfl⟩))
    have h8 : Below w5.heap.size w5 wy := And.left (And.right ‹(Lies wy _ _ ∧ _ ∧ _) ∧ Below w5.heap.size w5 wy ∧ _›)
    clear H8
    have hL1 : ∀ w', Below w2.heap.size wy w' → Lies w' (.pointer (some ⟨w.heap.size, 0, none⟩)) 520 := fun w' h => ((b5.later h8).below h q1).lies0 HLN.out
    have hR1 : ∀ w', Below w2.heap.size wy w' → rowAt w' (.pointer (some ⟨w.heap.size, 0, none⟩)) 520 = l := fun w' h => ((b5.later h8).below h q1).row0 HLN.out
    have hC2 : ∀ w', Below w2.heap.size wy w' → w'.cell? ⟨w1.heap.size, 2, none⟩ = some (.int .i64 (k : Int)) := fun w' h => ((t5.later h8).below h q2).cell HTB.out.2
    have hL3 : ∀ w', HasBox w' w2.heap.size 31 520 → Lies w' (.pointer (some ⟨w2.heap.size, 0, none⟩)) 520 := fun w' h => h.lies
    have hH := HP.out.holds
    have H9 : Hid (Below w2.heap.size wy wy.drew ∧ HasBox wy.drew w2.heap.size 31 520) := ⟨(Below.refl _ _).drew, z, (r5.later h8).drew, HZN.out⟩
    have HB9 := Hid.mk' (HB5.out.trans (h8.mono hw5))
    clear h8 b5 t5 r5 c1 c2 hb
    go_wp2_with fail
    go_region_held3 (fun w' => Below w2.heap.size wy w' ∧ HasBox w' w2.heap.size 31 520) (first | assumption | exact H9.out | (refine kept9s ?_ HP.out.len; assumption) | (refine kept9 ?_ hb; assumption)) (first | (go_at_call 18; refine (HWS.out _).mono ?_; rintro e wx ⟨rfl, hb⟩) | (go_at_call 19; refine (HSA.out _).mono ?_; rintro e wz ⟨rfl, hb⟩; have hq : HasBox wz w2.heap.size 31 520 := HasBox.later (And.right ‹Below w2.heap.size wy _ ∧ HasBox _ w2.heap.size 31 520›) hb))
    have h9 := And.left ‹Below w2.heap.size wy _ ∧ HasBox _ w2.heap.size 31 520›
    have s9 := hq.put l' HP.out.len
    clear hL1 hR1 hC2 hL3 hH H9
    go_wp2
    exact ret_box3 Try.results7 31 l' w2.heap.size _ Try.underlying31 rfl HS'.out _ _ rfl rfl rfl s9.box rfl ⟨rfl, HB9.out.trans (h9.mono hle)⟩

theorem isSay_yes {kd cm op : Int} {d : ByteArray} (h : isSay kd cm op d = true) : kd = 3 ∧ cm = cmdI (decide (252 < cm)) (decide (cm % 2 = 1)) ∧ op.toNat < 256 ∧ op = (op.toNat : Int) ∧ d.toList.isEmpty = true := by
  unfold isSay at h
  rw [Bool.and_eq_true] at h
  obtain ⟨h1, h2⟩ := h
  obtain ⟨a, ⟨b1, b2⟩, c1, c2⟩ := of_decide_eq_true h1
  refine ⟨a, ?_, by omega, by omega, h2⟩
  have hc : cm = 251 ∨ cm = 252 ∨ cm = 253 ∨ cm = 254 := by omega
  rcases hc with rfl | rfl | rfl | rfl <;> decide

/-- what Take answers -/
def takeR (l : List Value) (kd cm op : Int) (d : ByteArray) : List Value × List UInt8 × Int :=
  if right l = true then
    if isSay kd cm op d = true then
      (putSt l (decide (252 < cm)) op.toNat (hear (st l (place (decide (252 < cm)) op.toNat)) (decide (cm % 2 = 1)) (may l (decide (252 < cm)) op.toNat)).1,
       word (decide (252 < cm)) (hear (st l (place (decide (252 < cm)) op.toNat)) (decide (cm % 2 = 1)) (may l (decide (252 < cm)) op.toNat)).2.1 op.toNat, 0)
    else (l, [], 1)
  else (l, [], 4)

theorem Take_any (l : List Value) (hl : NegL l) (kd cm op : Int) (d : ByteArray) (w : World) :
    Calls Try.prog 7 #[.agg l.toArray, .agg (tok kd cm op d).toArray] w fun e w' => e = .returned (RNeg (takeR l kd cm op d).1 (takeR l kd cm op d).2.1 (takeR l kd cm op d).2.2) ∧ Below w.heap.size w w' := by
  unfold takeR
  cases hr : right l with
  | false => exact Take_form l hl hr kd cm op d w
  | true =>
    rw [if_pos rfl]
    cases hi : isSay kd cm op d with
    | false => exact Take_arg l hl hr kd cm op d hi w
    | true =>
      rw [if_pos rfl]
      obtain ⟨rfl, hc, hk, ho, hd⟩ := isSay_yes hi
      generalize decide (252 < cm) = us at *
      generalize decide (cm % 2 = 1) = on at *
      subst hc
      generalize op.toNat = k at *
      subst ho
      exact Take_ok l hl hr us on k hk d hd w _ _ _ rfl
end Go.Proofs.Ytfehlfjondelnab.Q
