/-
  Contract of farkeep.slcLives: it returns true. No condition.
-/
import Derived.Test.YtfipmggdpigbkaaKTakeAll
import Derived.Test.YtfipmggdpigbkaaKEq
namespace Go.Proofs.Ytfipmggdpigbkaa.K
open Go.RowKit Go.Lib Go.Proofs.Ytfipmggdpigbkaa Go.Proofs.Ytfipmggdpigbkaa.W Go.Proofs.Ytfipmggdpigbkaa.Q

def liveK : List UInt8 := put noK 10 2 127
set_option maxRecDepth 100000 in
theorem live_take : takeT noK [10, 2, 127] = (liveK, [10, 130, 127], 0) := by decide +kernel
theorem buildK (w : World) : (Instr.build 24 #[]).run Try.prog w = .ok (.agg (bcells noK).toArray) w := by kernel_rfl
section
variable {P : Program} {ops : Array Oper} {rest : List Oper} {op : Oper} {a : Act} {w : World} {Q : Exit → Act → World → Prop}
/-- a struct that is built of nothing -/
theorem wpList_build0 (l : List Value) (ty : TypeId) (hb : (Instr.build ty #[]).run P w = .ok (.agg l.toArray) w) (hgd : op.guard = none) (ho : op.op = .build ty #[])
    (h : wpList P ops Q rest (a.put op.dst (.agg l.toArray)) w) : wpList P ops Q (op :: rest) a w :=
  wpList_plain hgd fun _ hK => by
    unfold Oper.wp execOp
    simp only [ho, List.map_toArray, List.map_nil, hb, Sem.run_bind, Sem.run_pure, Result.andThen_ok]
    exact hK _ _ h
end

set_option maxHeartbeats 4000000 in
theorem lives_any (w : World) : Calls Try.prog 17 #[] w fun e w' => e = .returned (.bool true) ∧ Below w.heap.size w w' := by
  have HZK := Hid.mk' zeroK
  have HT := Hid.mk' (Take_any noK rfl [10, 2, 127] (by decide))
  rw [live_take] at HT
  have HB := Hid.mk' buildK
  have hk : liveK.length = 38 := rfl
  have HO := Hid.mk' (bcells_one liveK)
  have HS := Hid.mk' (sizeKV liveK hk)
  have HN : Hid ((bcells noK).length = (bcells liveK).length) := rfl
  have HG : Hid ((bcells liveK)[10]? = some (.int .u8 2) ∧ (bcells liveK)[29]? = some (.int .u8 127)) := ⟨rfl, rfl⟩
  unfold RK KV at HT
  dsimp only at HT
  generalize bcells liveK = l' at *
  generalize hz : bcells noK = z at *
  clear hz
  have HT2 : Hid (∀ w, Calls Try.prog 9 #[.agg z.toArray, .string { data := #[10, 2, 127] }] w fun e w' => e = .returned (.tuple #[.agg l'.toArray, .string { data := #[10, 130, 127] }, .int .i64 0]) ∧ Below w.heap.size w w') := HT.out
  clear HT hk
  go_enter Try.func17, Try.ntmps17
  go_wp2_with (refine wpList_build0 z 24 (HB.out _) rfl rfl ?_)
  refine (HT2.out _).mono ?_
  rintro e w1 ⟨rfl, h1⟩
  have HB1 := Hid.mk' h1
  have z1 := h1.size
  clear h1
  go_wp2_with (refine wpList_alloc z 24 HZK.out rfl rfl ?_)
  intro w2 m2
  go_wp2_with (refine wpList_store_box 24 24 z l' w1.heap.size HS.out HO.out m2.box HN.out rfl _ _ rfl rfl rfl ?_)
  intro w3 s3
  have HB3 := Hid.mk' (s3.below w.heap.size w z1 (m2.below _ _ z1 HB1.out))
  have hc := s3.box.cell HG.out.1
  have hc2 := s3.box.cell HG.out.2
  clear z1 m2 s3
  go_wp2
  go_ret
  exact ⟨rfl, HB3.out⟩
end Go.Proofs.Ytfipmggdpigbkaa.K
