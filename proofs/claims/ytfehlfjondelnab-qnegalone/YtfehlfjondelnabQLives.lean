/-
  Contract of farkeep.qnegLives: it returns true. No condition.
-/
import Derived.Test.YtfehlfjondelnabQTake
namespace Go.Proofs.Ytfehlfjondelnab.Q
open Go.RowKit Go.Proofs.Ytfehlfjondelnab

/-- nothing is on, one option of ours may be -/
def liveL : List Value := List.replicate 512 (Value.int .u8 0) ++ ([.int .u64 2, .int .u64 0, .int .u64 0, .int .u64 0, .int .u64 0, .int .u64 0, .int .u64 0, .int .u64 0] : List Value)
theorem liveL_build (w : World) : (Instr.build 31 #[(2, .agg #[.int .u64 2, .int .u64 0, .int .u64 0, .int .u64 0])]).run Try.prog w = .ok (.agg liveL.toArray) w := by kernel_rfl
set_option maxRecDepth 100000 in
theorem liveL_neg : NegL liveL := by
  have hl : ∀ (m : Nat) (x : Value) (r : List Value) (j : Nat), j < m → (List.replicate m x ++ r)[j]? = some x := fun m x r j h => by
    rw [List.getElem?_append_left (by simpa using h), List.getElem?_replicate, if_pos h]
  have hr : ∀ (m : Nat) (x : Value) (r : List Value) (j : Nat), (List.replicate m x ++ r)[m + j]? = r[j]? := fun m x r j => by
    rw [List.getElem?_append_right (by simp)]
    simp
  have hn : ∀ (m : Nat) (x : Value) (r : List Value), (List.replicate m x ++ r).length = m + r.length := fun m x r => by simp
  refine ⟨hn 512 _ _, fun j hj => ⟨0, by omega, hl 512 _ _ j hj⟩, fun j h1 h2 => ?_⟩
  obtain ⟨i, rfl⟩ : ∃ i, j = 512 + i := ⟨j - 512, by omega⟩
  have hi : i = 0 ∨ i = 1 ∨ i = 2 ∨ i = 3 ∨ i = 4 ∨ i = 5 ∨ i = 6 ∨ i = 7 := by omega
  unfold liveL
  rw [hr]
  rcases hi with rfl | rfl | rfl | rfl | rfl | rfl | rfl | rfl
  · exact ⟨2, by omega, rfl⟩
  all_goals exact ⟨0, by omega, rfl⟩
set_option maxRecDepth 100000 in
theorem liveL_right : right liveL = true := by decide +kernel
set_option maxRecDepth 100000 in
theorem liveL_may : may liveL true 1 = true := by decide +kernel
set_option maxRecDepth 100000 in
theorem liveL_st : st liveL 1 = 0 := by decide +kernel
theorem live_take : takeR liveL 3 253 1 ⟨#[]⟩ = (putSt liveL true 1 1, [255, 251, 1], 0) := by
  have e : isSay 3 253 1 ⟨#[]⟩ = true := by
    unfold isSay
    rw [ByteArray.toList_eq]
    decide
  have e1 : decide ((252 : Int) < 253) = true := by decide
  have e2 : decide ((253 : Int) % 2 = 1) = true := by decide
  have e3 : (1 : Int).toNat = 1 := rfl
  have e4 : place true 1 = 1 := rfl
  unfold takeR
  rw [if_pos liveL_right, if_pos e, e1, e2, e3, e4, liveL_st, liveL_may]
  rfl

section
variable {P : Program} {ops : Array Oper} {rest : List Oper} {op : Oper} {a : Act} {w : World} {Q : Exit → Act → World → Prop}
/-- a struct that is built of one part -/
theorem wpList_build1 (l : List Value) (ty : TypeId) (i : Nat) (v : Value) (hb : (Instr.build ty #[(i, v)]).run P w = .ok (.agg l.toArray) w) (hgd : op.guard = none) (x : Operand) (ho : op.op = .build ty #[(i, x)]) (hx : a.eval x = v)
    (h : wpList P ops Q rest (a.put op.dst (.agg l.toArray)) w) : wpList P ops Q (op :: rest) a w :=
  wpList_plain hgd fun _ hK => by
    unfold Oper.wp execOp
    simp only [ho, List.map_toArray, List.map_cons, List.map_nil, hx, hb, Sem.run_bind, Sem.run_pure, Result.andThen_ok]
    exact hK _ _ h
end

set_option maxHeartbeats 4000000 in
theorem lives_any (w : World) : Calls Try.prog 6 #[] w fun e w' => e = .returned (.bool true) ∧ Below w.heap.size w w' := by
  obtain ⟨z, hz, hzw⟩ := zero32
  have HZ := Hid.mk' hzw
  have HT := Hid.mk' (Take_any liveL liveL_neg 3 253 1 ⟨#[]⟩)
  rw [live_take] at HT
  unfold RNeg tok at HT
  have HB := Hid.mk' liveL_build
  have hp := liveL_neg.put true (opt := 1) (by omega) (s := 1) (by omega) (by omega)
  have HP := Hid.mk' hp
  have HG : Hid ((putSt liveL true 1 1)[1]? = some (.int .u8 1)) := by
    unfold putSt
    rw [show place true 1 = 1 from rfl]
    exact List.getElem?_set_self (by rw [liveL_neg.len]; omega)
  have HS : Hid ((Try.prog.info? 31).map (·.size) = some (putSt liveL true 1 1).length) := by rw [hp.len]; exact size32
  have HN : Hid (z.length = (putSt liveL true 1 1).length) := hz.len.trans hp.len.symm
  generalize putSt liveL true 1 1 = l' at *
  generalize liveL = l at *
  clear hzw hz hp
  go_enter Try.func6, Try.ntmps6
  go_wp2_with (refine wpList_build1 l 31 2 _ (HB.out _) rfl _ rfl rfl ?_)
  refine (HT.out _).mono ?_
  rintro e w1 ⟨rfl, h1⟩
  have HB1 := Hid.mk' h1
  have z1 := h1.size
  clear h1
  go_wp2_with (refine wpList_alloc z 31 HZ.out rfl rfl ?_)
  intro w2 m2
  go_wp2_with (refine wpList_store_box 31 31 z l' w1.heap.size HS.out HP.out.one m2.box HN.out rfl _ _ rfl rfl rfl ?_)
  intro w3 s3
  have HB3 := Hid.mk' (s3.below w.heap.size w z1 (m2.below _ _ z1 HB1.out))
  have hc := s3.box.cell HG.out
  clear z1 m2 s3
  go_wp2
  go_ret
  exact ⟨rfl, HB3.out⟩
end Go.Proofs.Ytfehlfjondelnab.Q
