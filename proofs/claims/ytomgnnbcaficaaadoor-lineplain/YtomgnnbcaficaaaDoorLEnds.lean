/-
  Contract of the function in farkeep.LinePlain that says whether a byte ends a line; conditions: Keys of 38 bytes, a set of four words of 64 bits.
-/
import Derived.Test.YtomgnnbcaficaaaDoorLRef
import Derived.Test.YtomgnnbcaficaaaDoorHHas
import Derived.Test.YtomgnnbcaficaaaDoorLSpecial
namespace Go.Proofs.YtomgnnbcaficaaaDoor.L
open Go.RowKit Go.Lib Go.Proofs.YtomgnnbcaficaaaDoor Go.Proofs.YtomgnnbcaficaaaDoor.W Go.Proofs.YtomgnnbcaficaaaDoor.Q

section
variable {P : Program} {ops : Array Oper} {rest : List Oper} {op : Oper} {a : Act} {w : World} {Q : Exit → Act → World → Prop}
/-- a block is read whole, where a guard stands -/
theorem wpList_load_boxg (ty : TypeId) (t : TypeId) (l : List Value) (b : Nat) (d : TypeDesc) (hu : P.underlying ty = some d) (hd : d.isRow = true) (hi : (P.info? ty).map (·.size) = some l.length) (hB : Box w b t l)
    (hwd : Region.wanted op (yielded ops a.tmps) = true) (x : Operand) (ho : op.op = .load ty x) (hx : a.eval x = .pointer (some ⟨b, 0, none⟩))
    (h : wpList P ops Q rest (a.put op.dst (.agg l.toArray)) w) : wpList P ops Q (op :: rest) a w := by
  refine wpList_step fun K hK => ?_
  rw [if_pos hwd]
  obtain ⟨dst, o, t', pos, af, g⟩ := op
  dsimp only at ho
  subst ho
  have e := exec_load (P := P) ty l.length d hu hd hi a.eval x dst t' pos af g w (by rw [hx]; exact hB.lies0 rfl)
  rw [hx, hB.row0 rfl] at e
  unfold Oper.wp
  rw [e]
  exact hK _ _ h
end

set_option maxHeartbeats 8000000 in
set_option maxRecDepth 100000 in
theorem ends_any (k : List UInt8) (hk : k.length = 38) (M : List Nat) (hM : H.okW M) (c : UInt8) (bm bk : Nat) (w : World) (hBK : Box w bk 26 (bcells k)) (hBM : Box w bm 30 (H.ucells M)) :
    Calls Tryd.prog 16 #[.int .u8 (c.toNat : Int), .pointer (some ⟨bm, 0, none⟩), .pointer (some ⟨bk, 0, none⟩)] w fun e w' => e = .returned (.bool (isEnd k M c)) ∧ Below w.heap.size w w' := by
  have HSK := Hid.mk' (K.sizeKV k hk)
  have HSM := Hid.mk' (H.sizeMV hM)
  have BK := Hid.mk' hBK
  have BM := Hid.mk' hBM
  have HIM : Hid (∀ W, Calls Tryd.prog 17 #[.agg (H.ucells M).toArray, .int .i64 (c.toNat : Int)] W fun e w' => e = .returned (.bool (H.mem M c.toNat)) ∧ Below W.heap.size W w') := fun W => H.InMask_any M hM c.toNat c.toNat_lt W
  have HK17 : Hid (∀ W, Calls Tryd.prog 18 #[.agg (bcells k).toArray, .int .i64 17] W fun e w' => e = .returned (.int .i64 (keyI k 17)) ∧ Below W.heap.size W w') := fun W => KeyOf_any k hk 17 (by omega) W
  have HK18 : Hid (∀ W, Calls Tryd.prog 18 #[.agg (bcells k).toArray, .int .i64 18] W fun e w' => e = .returned (.int .i64 (keyI k 18)) ∧ Below W.heap.size W w') := fun W => KeyOf_any k hk 18 (by omega) W
  have e17 := keyI_is k 17 c
  have e18 := keyI_is k 18 c
  have hE : isEnd k M c = (decide ((c.toNat : Int) = 13 ∨ (c.toNat : Int) = 10) || (H.mem M c.toNat || (isK k 17 c || isK k 18 c))) := by
    unfold isEnd
    rw [show decide (c = 13 ∨ c = 10) = decide ((c.toNat : Int) = 13 ∨ (c.toNat : Int) = 10) from by
      have e13 : (13 : UInt8).toNat = 13 := rfl
      have e10 : (10 : UInt8).toNat = 10 := rfl
      rw [decide_eq_decide, ← UInt8.toNat_inj, ← UInt8.toNat_inj, e13, e10]
      omega]
    cases H.mem M c.toNat <;> cases isK k 17 c <;> cases isK k 18 c <;> simp
  have hbn := c.toNat_lt
  have q1 : (0 : Int) ≤ (c.toNat : Int) := by omega
  have q2 : (c.toNat : Int) ≤ 255 := by omega
  rw [hE]
  clear hE hBK hBM
  generalize H.mem M c.toNat = b0 at *
  generalize isK k 17 c = b1 at *
  generalize isK k 18 c = b2 at *
  generalize keyI k 17 = i1 at *
  generalize keyI k 18 = i2 at *
  generalize (c.toNat : Int) = y at *
  generalize bcells k = l at *
  generalize H.ucells M = m at *
  clear hk hM hbn
  have E1 := Hid.mk' e17
  have E2 := Hid.mk' e18
  clear e17 e18
  go_enter Tryd.func16, Tryd.ntmps16
  by_cases h13 : y = 13
  · subst h13
    clear HIM HK17 HK18 E1 E2
    go_wp2
    go_ret
    exact ⟨rfl, Below.refl _ _⟩
  by_cases h10 : y = 10
  · subst h10
    clear HIM HK17 HK18 E1 E2
    go_wp2
    go_ret
    exact ⟨rfl, Below.refl _ _⟩
  have y13 : (y == 13) = false := beq_false_of_ne h13
  have y10 : (y == 10) = false := beq_false_of_ne h10
  rw [decide_eq_false (fun e => e.elim h13 h10), Bool.false_or]
  clear h13 h10
  go_wp2_with (with_reducible refine wpList_load_boxg 30 30 m bm _ Tryd.underlying30 rfl HSM.out BM.out rfl _ rfl rfl ?_)
  refine (HIM.out _).mono ?_
  rintro e w1 ⟨rfl, h1⟩
  have HB1 := Hid.mk' h1
  have BK1 := Hid.mk' (BK.out.later h1)
  clear h1 BK
  cases b0 with
  | true =>
    clear HK17 HK18 E1 E2
    go_wp2
    go_ret
    exact ⟨rfl, HB1.out⟩
  | false =>
    go_wp2_with (with_reducible refine wpList_load_boxg 26 26 l bk _ Tryd.underlying26 rfl HSK.out BK1.out rfl _ rfl rfl ?_)
    refine (HK17.out _).mono ?_
    rintro e w2 ⟨rfl, h2⟩
    have HB2 := Hid.mk' (HB1.out.trans (Below.mono h2 HB1.out.size))
    have BK2 := Hid.mk' (BK1.out.later h2)
    have e17 := E1.out
    clear h2 BK1 HB1 E1
    cases b1 with
    | true =>
      clear HK18 E2
      go_wp2
      go_ret
      exact ⟨rfl, HB2.out⟩
    | false =>
      go_wp2_with (with_reducible refine wpList_load_boxg 26 26 l bk _ Tryd.underlying26 rfl HSK.out BK2.out rfl _ rfl rfl ?_)
      refine (HK18.out _).mono ?_
      rintro e w3 ⟨rfl, h3⟩
      have HB3 := Hid.mk' (HB2.out.trans (Below.mono h3 HB2.out.size))
      have e18 := E2.out
      clear h3 BK2 HB2 E2
      go_wp2
      go_ret
      exact ⟨by cases b2 <;> rfl, HB3.out⟩
end Go.Proofs.YtomgnnbcaficaaaDoor.L
