/-
  Contracts of isEnd and take, over an editor in memory; conditions: a line of fewer than 1024 bytes, no more lines and bytes shown than so many, four words of 64 bits.
-/
import Derived.Test.YtomgnnbcaficaaaDoorLWord
import Derived.Test.YtomgnnbcaficaaaDoorHHas
namespace Go.Proofs.YtomgnnbcaficaaaDoor.L
open Go.RowKit Go.Lib Go.Proofs.YtomgnnbcaficaaaDoor Go.Proofs.YtomgnnbcaficaaaDoor.W Go.Proofs.YtomgnnbcaficaaaDoor.Q

section
variable {P : Program} {ops : Array Oper} {rest : List Oper} {op : Oper} {a : Act} {w : World} {Q : Exit → Act → World → Prop}
/-- a part of a block is read, under a guard that says yes -/
theorem wpList_load_g (ty : TypeId) (t : TypeId) (l : List Value) (b o n : Nat) (d : TypeDesc) (hu : P.underlying ty = some d) (hd : d.isRow = true) (hi : (P.info? ty).map (·.size) = some n) (hB : Box w b t l) (hn : o + n ≤ l.length)
    (hwd : Region.wanted op (yielded ops a.tmps) = true) (x : Operand) (ho : op.op = .load ty x) (hx : a.eval x = .pointer (some ⟨b, o, none⟩)) (v : Value) (hv : .agg ((l.drop o).take n).toArray = v)
    (h : wpList P ops Q rest (a.put op.dst v) w) : wpList P ops Q (op :: rest) a w := by
  subst hv
  refine wpList_step fun K hK => ?_
  rw [if_pos hwd]
  unfold Oper.wp execOp
  simp only [ho, hx, Instr.loadAt, Instr.sureAddr, Sem.run_bind, Sem.run_pure, Result.andThen_ok]
  rw [run_loadVar_mid w b o ty ((l.drop o).take n) d (hB.range o n) hu hd (by rw [hi, List.length_take, List.length_drop]; congr 1; omega)]
  exact hK _ _ h
end
theorem TX.later {base : Nat} {w w' : World} {b : Nat} {k : List UInt8} {M : List Nat} {s : S} (h : TX base w b k M s) (hb : Below w.heap.size w w') : TX base w' b k M s := by
  obtain ⟨ab, nb, cb, al, nl, cl, ae, ne, ce, h⟩ := h
  exact ⟨_, _, _, _, _, _, _, _, _, h.move fun g hg => hb.block g hg⟩
theorem TX.base_le {base : Nat} {w : World} {b : Nat} {k : List UInt8} {M : List Nat} {s : S} (h : TX base w b k M s) : base ≤ w.heap.size := by
  obtain ⟨ab, nb, cb, al, nl, cl, ae, ne, ce, h⟩ := h
  exact h.base_le

set_option maxHeartbeats 4000000 in
set_option maxRecDepth 100000 in
theorem isEnd_any {base : Nat} {w : World} {b : Nat} {k : List UInt8} {M : List Nat} {s : S} (h : TX base w b k M s) (hM : H.okW M) (c : UInt8) :
    Calls Tryd.prog 41 #[.pointer (some ⟨b, 0, none⟩), .int .u8 (c.toNat : Int)] w fun e w' => e = .returned (.bool (isEnd k M c)) ∧ Below w.heap.size w w' := by
  have HK : Hid (Calls Tryd.prog 38 #[.pointer (some ⟨b, 0, none⟩), .int .i64 17, .int .u8 (c.toNat : Int)] w fun e w' => e = .returned (.bool (isK k 17 c)) ∧ w' = w) := isKey_any h 17 (by omega) c
  have HK2 : Hid (Calls Tryd.prog 38 #[.pointer (some ⟨b, 0, none⟩), .int .i64 18, .int .u8 (c.toNat : Int)] w fun e w' => e = .returned (.bool (isK k 18 c)) ∧ w' = w) := isKey_any h 18 (by omega) c
  have HH : Hid (Calls Tryd.prog 56 #[.agg (H.ucells M).toArray, .int .u8 (c.toNat : Int)] w fun e w' => e = .returned (.bool (H.mem M c.toNat)) ∧ Below w.heap.size w w') := H.Has_any M hM c w
  have HM : Hid (∀ vb q vl ve, k.length = 38 → Value.agg (((tcells k M vb q vl ve).drop 38).take 4).toArray = .agg (H.ucells M).toArray) := fun vb q vl ve hk => by rw [tcells_mask hk hM.1]
  have q13 : (c = 13 ∨ c = 10) ↔ ((c.toNat : Int) = 13 ∨ (c.toNat : Int) = 10) := by
    have e13 : (13 : UInt8).toNat = 13 := rfl
    have e10 : (10 : UInt8).toNat = 10 := rfl
    rw [← UInt8.toNat_inj, ← UInt8.toNat_inj, e13, e10]; omega
  have hR : isEnd k M c = (decide ((c.toNat : Int) = 13 ∨ (c.toNat : Int) = 10) || (isK k 17 c || (isK k 18 c || H.mem M c.toNat))) := by
    unfold isEnd
    congr 1
    rw [decide_eq_decide]; exact q13
  rw [hR]
  clear hR q13
  generalize isK k 17 c = a1 at *
  generalize isK k 18 c = a2 at *
  generalize H.mem M c.toNat = a3 at *
  generalize (c.toNat : Int) = z at *
  obtain ⟨ab, nb, cb, al, nl, cl, ae, ne, ce, h⟩ := h
  have hbx := h.box
  have hlen := tcells_length h.kl h.ml (.slice ab nb cb) s.q (.slice al nl cl) (.slice ae ne ce)
  have HV := Hid.mk' (HM.out (.slice ab nb cb) s.q (.slice al nl cl) (.slice ae ne ce) h.kl)
  have HL : Hid (38 + 4 ≤ (tcells k M (.slice ab nb cb) s.q (.slice al nl cl) (.slice ae ne ce)).length) := by rw [Hid, hlen]; omega
  have HB := Hid.mk' hbx
  clear h hlen HM hM hbx
  generalize tcells k M (.slice ab nb cb) s.q (.slice al nl cl) (.slice ae ne ce) = L at *
  generalize H.ucells M = m at *
  by_cases h13 : z = 13
  · subst h13
    go_enter Tryd.func41, Tryd.ntmps41
    go_wp2
    go_ret
    exact ⟨rfl, Below.refl _ _⟩
  by_cases h10 : z = 10
  · subst h10
    go_enter Tryd.func41, Tryd.ntmps41
    go_wp2
    go_ret
    exact ⟨rfl, Below.refl _ _⟩
  have hd : decide (z = 13 ∨ z = 10) = false := decide_eq_false (fun e => e.elim h13 h10)
  rw [hd, Bool.false_or]
  have h13' : (z == 13) = false := beq_false_of_ne h13
  have h10' : (z == 10) = false := beq_false_of_ne h10
  clear hd
  cases a1 with
  | true =>
    go_enter Tryd.func41, Tryd.ntmps41
    go_wp2_with fail
    refine HK.out.mono ?_
    rintro e w1 ⟨rfl, rfl⟩
    go_wp2
    go_ret
    exact ⟨rfl, Below.refl _ _⟩
  | false =>
    cases a2 with
    | true =>
      go_enter Tryd.func41, Tryd.ntmps41
      go_wp2_with fail
      refine HK.out.mono ?_
      rintro e w1 ⟨rfl, rfl⟩
      go_wp2_with fail
      refine HK2.out.mono ?_
      rintro e w1 ⟨rfl, rfl⟩
      go_wp2
      go_ret
      exact ⟨rfl, Below.refl _ _⟩
    | false =>
      go_enter Tryd.func41, Tryd.ntmps41
      go_wp2_with fail
      refine HK.out.mono ?_
      rintro e w1 ⟨rfl, rfl⟩
      go_wp2_with fail
      refine HK2.out.mono ?_
      rintro e w1 ⟨rfl, rfl⟩
      go_wp2_with (refine wpList_load_g 30 64 L b 38 4 _ Tryd.underlying30 rfl H.sizeM HB.out HL.out rfl _ rfl rfl _ HV.out ?_)
      refine HH.out.mono ?_
      rintro e w2 ⟨rfl, h2⟩
      have HB2 := Hid.mk' h2
      clear h2
      go_wp2
      go_ret
      exact ⟨by simp, HB2.out⟩
end Go.Proofs.YtomgnnbcaficaaaDoor.L
