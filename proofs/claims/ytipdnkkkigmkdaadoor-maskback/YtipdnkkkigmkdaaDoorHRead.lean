/-
  Contract of mask.Read; condition: a text of at most 2^62 bytes.
-/
import Derived.Test.YtipdnkkkigmkdaaDoorHTrim
import Derived.Test.YtipdnkkkigmkdaaDoorHRev
import Derived.Deep.LoopGhost
import Derived.Deep.RegionWith
import Derived.BigRegion
namespace Go.Proofs.YtipdnkkkigmkdaaDoor.H
open Go.RowKit Go.Lib Go.Proofs.YtipdnkkkigmkdaaDoor Go.Proofs.YtipdnkkkigmkdaaDoor.W Go.Proofs.YtipdnkkkigmkdaaDoor.Q

/-- what Read answers -/
def readT (l : List UInt8) : List Nat × Int := if l.length ≤ 32 then (readW l, 0) else (noW, 2)
theorem readT_ok (l : List UInt8) : okW (readT l).1 := by
  unfold readT
  split
  · exact ok_readW l
  · exact ok_noW
def RT (r : List Nat × Int) : Value := .tuple #[MV r.1, .int .i64 r.2]

section
variable {P : Program} {ops : Array Oper} {rest : List Oper} {op : Oper} {a : Act} {w : World} {Q : Exit → Act → World → Prop}
/-- a struct that is built of nothing -/
theorem wpList_build0 (l : List Value) (ty : TypeId) (hb : (Instr.build ty #[]).run P w = .ok (.agg l.toArray) w) (hgd : op.guard = none) (ho : op.op = .build ty #[])
    (h : wpList P ops Q rest (a.put op.dst (.agg l.toArray)) w) : wpList P ops Q (op :: rest) a w :=
  wpList_plain hgd fun _ hK => by
    unfold Oper.wp execOp
    simp only [ho, List.map_toArray, List.map_nil, hb, Sem.run_bind, Sem.run_pure, Result.andThen_ok]
    exact hK _ _ h
/-- a result that lies in a block, and one more -/
theorem ret_box2 {fn : Func} {R : Ending → World → Prop} {p p1 : Tmp} {ty : TypeId} (h : fn.results = #[.cell p ty, .tmp p1]) {a : Act} {w : World} (t : TypeId) (l : List Value) (b : Nat) (d : TypeDesc) (hu : P.underlying ty = some d) (hd : d.isRow = true) (hi : (P.info? ty).map (·.size) = some l.length)
    (v1 : Value) (hp : a.tmps[p]? = some (.pointer (some ⟨b, 0, none⟩))) (hp1 : a.tmps[p1]? = some v1) (hB : Box w b t l) (h0 : a.defers = []) (hR : R (.returned (.tuple #[.agg l.toArray, v1])) w) : bodyPost P fn R .ret a w := by
  refine bodyPost_ret (v := .tuple #[.agg l.toArray, v1]) ?_ h0 hR
  simp [results, h, hp, hp1, asAddr, loadVar_box w ty t l b d hu hd hi hB]
end
theorem buildM (w : World) : (Instr.build 25 #[]).run Tryd.prog w = .ok (.agg (ucells noW).toArray) w := by kernel_rfl
theorem wrap_byte (r : Nat) (h : r < 256) : IntKind.u64.wrap (r : Int) = (r : Int) := wrap_u64 r (by omega)
theorem wrap_part (x i : Nat) (hx : x < 256) : IntKind.u64.wrap ((rev8 x : Nat) * (2 : Int) ^ (i % 8 * 8)) = (rev8 x : Nat) * (2 : Int) ^ (i % 8 * 8) := by
  rw [cast_two, ← Int.natCast_mul]
  exact wrap_u64 _ (orB_x x hx i)
theorem or_part (y x i : Nat) (hx : x < 256) (hy : y < 18446744073709551616) : bits .or .u64 (y : Int) ((rev8 x : Nat) * (2 : Int) ^ (i % 8 * 8)) = ((y ||| rev8 x * 2 ^ (i % 8 * 8) : Nat) : Int) := by
  rw [cast_two, ← Int.natCast_mul]
  exact bit_or _ _ hy (orB_x x hx i)

set_option maxHeartbeats 4000000 in
theorem Read_long (l : List UInt8) (hl : l.length ≤ 4611686018427387904) (h : 32 < l.length) (w : World) :
    Calls Tryd.prog 5 #[.string (bs l)] w fun e w' => e = .returned (RT (readT l)) ∧ Below w.heap.size w w' := by
  have e : readT l = (noW, 2) := by unfold readT; rw [if_neg (by omega)]
  rw [e]
  have hs := bs_size l
  have h' : (32 : Int) < (l.length : Int) := by omega
  have HR : Hid (RT (noW, 2) = .tuple #[.agg (ucells noW).toArray, .int .i64 2]) := rfl
  rw [HR.out]
  have HO := Hid.mk' (ucells_one noW)
  have HS := Hid.mk' (sizeMV ok_noW)
  have HZ := Hid.mk' zeroM
  have HB := Hid.mk' buildM
  generalize ucells noW = z at *
  generalize bs l = S at *
  go_enter Tryd.func5, Tryd.ntmps5
  go_wp2_with (refine wpList_alloc z 25 HZ.out rfl rfl ?_)
  intro w1 m1
  have HB1 := Hid.mk' (m1.below _ _ (Nat.le_refl _) (Below.refl _ w))
  go_wp2_with (first | (with_reducible refine wpList_build0 z 25 (HB.out _) rfl rfl ?_) | (refine wpList_store_box 25 25 z z w.heap.size HS.out HO.out m1.box rfl rfl _ _ rfl rfl rfl ?_))
  intro w2 s2
  have b2 := s2.box
  have HB2 := Hid.mk' (s2.below w.heap.size w (Nat.le_refl _) HB1.out)
  clear s2 m1
  go_wp2
  exact ret_box2 Tryd.results5 25 z w.heap.size _ Tryd.underlying25 rfl HS.out _ rfl rfl b2 rfl ⟨rfl, HB2.out⟩

def NS (w w1 : World) (l : List UInt8) (g : Nat) (s12 : Value) (wr : World) : Prop :=
  ∃ (n : Nat), n ≤ l.length ∧ l.length - n ≤ g ∧ s12 = .int .i64 (n : Int) ∧ Hid (Box wr w1.heap.size 25 (ucells (readN l n))) ∧ Hid (∃ z : List Value, z.length = 4 ∧ Box wr w.heap.size 25 z) ∧ Hid (Below w.heap.size w wr)

set_option maxHeartbeats 4000000 in
set_option maxRecDepth 100000 in
theorem Read_short (l : List UInt8) (h : l.length ≤ 32) (w : World) :
    Calls Tryd.prog 5 #[.string (bs l)] w fun e w' => e = .returned (RT (readT l)) ∧ Below w.heap.size w w' := by
  have e : readT l = (readN l l.length, 0) := by unfold readT; rw [if_pos h]; rfl
  rw [e]
  clear e
  have hs := bs_size l
  have h' : ¬ (32 : Int) < (l.length : Int) := by omega
  have HV := Hid.mk' Reverse8_any
  have HST : Hid (∀ w1 wr : World, Box wr w1.heap.size 25 (ucells noW) → (∃ z : List Value, z.length = 4 ∧ Box wr w.heap.size 25 z) → Below w.heap.size w wr → NS w w1 l l.length (.int .i64 0) wr) := fun w1 wr h1 h2 h3 => ⟨0, Nat.zero_le _, by omega, rfl, h1, h2, h3⟩
  have HG : Hid (∀ (k : Nat) (h : k < l.length) (h2 : k < (bs l).size), (bs l)[k]'h2 = l[k]'h) := bs_get l
  generalize bs l = S at *
  go_enter Tryd.func5, Tryd.ntmps5
  go_wp2_with (refine wpList_alloc (ucells noW) 25 zeroM rfl rfl ?_)
  intro w1 m1
  have z1 := m1.lt
  go_wp2_with (refine wpList_alloc (ucells noW) 25 zeroM rfl rfl ?_)
  intro w2 m2
  have z2 := m2.lt
  have HST2 := Hid.mk' (HST.out w1 w2 m2.box ⟨_, rfl, m2.keep m1.box⟩ (m2.below _ _ (by omega) (m1.below _ _ (Nat.le_refl _) (Below.refl _ w))))
  clear m1 m2 HST
  go_wp2_with fail
  go_loopg [12] l.length (fun g s12 wr => NS w w1 l g s12 wr)
  case atStart => exact HST2.out
  case round =>
    obtain ⟨n, hn, hg, rfl, HB, HZ, HBL⟩ := hrel
    clear HST2
    have HGK := Hid.mk' hg
    clear hg
    by_cases hlt : n < l.length
    · have hlt2 : n < S.size := by omega
      have hgt := HG.out n hlt hlt2
      have HT : Hid (readN l (n + 1) = orB (readN l n) n (l[n]'hlt).toNat) := by
        rw [Hid, readN_succ, List.getD_eq_getElem?_getD, List.getElem?_eq_getElem hlt]; rfl
      have hok := ok_readN l n
      generalize readN l n = M at *
      have hb := (l[n]'hlt).toNat_lt
      generalize l[n]'hlt = b at *
      have hc := HB.out.cell (ucells_get M (n / 8) (by rw [hok.1]; omega))
      have hf := HB.out.frozen (n / 8)
      have hx := hok.get (n / 8)
      have HM : Hid (orB M n b.toNat = M.set (n / 8) (M.getD (n / 8) 0 ||| rev8 b.toNat * 2 ^ (n % 8 * 8))) := rfl
      have HV1 := Hid.mk' (HV.out b.toNat (by omega))
      have hw1 := wrap_byte (rev8 b.toNat) (rev8_lt ⟨b.toNat, by omega⟩)
      have hw2 := wrap_part b.toNat n (by omega)
      have ho := or_part (M.getD (n / 8) 0) b.toNat n (by omega) hx
      have HF0 : Hid (∀ w3, w3 = (wr.setCell ⟨w1.heap.size, n / 8, none⟩ (.int .u64 ((M.getD (n / 8) 0 ||| rev8 b.toNat * 2 ^ (n % 8 * 8) : Nat) : Int))).drew → (Box w3 w1.heap.size 25 (ucells (readN l (n + 1))) ∧ (∃ z : List Value, z.length = 4 ∧ Box w3 w.heap.size 25 z) ∧ Below w.heap.size w w3)) := fun w3 e3 => by
        subst e3
        refine ⟨?_, ?_, ?_⟩
        · rw [HT.out, HM.out, ucells_set]
          exact (HB.out.setCell _ _).drew
        · obtain ⟨z, hz, hb⟩ := HZ.out
          exact ⟨z, hz, (hb.kept (setCell_other _ _ _ _ (by omega))).drew⟩
        · exact (HBL.out.setCell (p := ⟨w1.heap.size, n / 8, none⟩) (by show w.heap.size ≤ w1.heap.size; omega) _).drew
      clear HM HT HB HZ HBL
      generalize M.getD (n / 8) 0 = x at *
      generalize rev8 b.toNat = r at *
      generalize hR : ((x ||| r * 2 ^ (n % 8 * 8) : Nat) : Int) = R at *
      have q1 : (0 : Int) ≤ (n : Int) / 8 := by omega
      have q2 : (n : Int) / 8 < 4 := by omega
      have q3 : ((n : Int) / 8).toNat = n / 8 := by omega
      have q4 : (0 : Int) ≤ (n : Int) % 8 * 8 := by omega
      have q5 : ((n : Int) % 8 * 8).toNat = n % 8 * 8 := by omega
      have q6 : min (n % 8 * 8) 64 = n % 8 * 8 := by omega
      have q7 : (n : Int).tmod 8 = (n : Int) % 8 := Int.tmod_eq_emod_of_nonneg (by omega)
      have q8 : IntKind.i64.wrap ((n : Int) % 8 * 8) = (n : Int) % 8 * 8 := by rw [IntKind.wrap_i64]; omega
      have q9 : IntKind.i64.wrap ((n : Int) / 8) = (n : Int) / 8 := by rw [IntKind.wrap_i64]; omega
      go_wp2_with fail
      go_region_with ((go_at_call 15; refine (HV1.out _).mono ?_; rintro e wx ⟨rfl, rfl⟩))
      all_goals
        have HF := Hid.mk' (HF0.out _ rfl)
        clear hc hf HF0
        generalize (wr.setCell ⟨w1.heap.size, n / 8, none⟩ (.int .u64 R)).drew = w3 at *
        have F0 := Hid.mk' HF.out.1
        have FZ := Hid.mk' HF.out.2.1
        have FB := Hid.mk' HF.out.2.2
        clear HF
        go_wp2
        go_roundg (l.length - (n + 1))
        case measure => have := HGK.out; omega
        case rel => exact ⟨n + 1, by omega, Nat.le_refl _, by go_num, F0, FZ, FB⟩
    · obtain rfl : n = l.length := by omega
      have hok := ok_readN l l.length
      obtain ⟨z, hz, hZ⟩ := HZ.out
      have HSZ := Hid.mk' (sizeMV hok)
      have HON := Hid.mk' (ucells_one (readN l l.length))
      have HLN : Hid ((ucells (readN l l.length)).length = 4) := by rw [Hid, ucells_length, hok.1]
      have b0 := HB.out
      clear HV HG
      go_wp2_with (first | (with_reducible refine wpList_load_box 25 25 (ucells (readN l l.length)) w1.heap.size _ Tryd.underlying25 rfl HSZ.out b0 rfl _ rfl rfl ?_) | (refine wpList_store_box 25 25 z (ucells (readN l l.length)) w.heap.size HSZ.out HON.out hZ (by rw [hz, HLN.out]) rfl _ _ rfl rfl rfl ?_))
      intro w4 s4
      have HB4 := Hid.mk' (s4.below w.heap.size w (Nat.le_refl _) HBL.out)
      have b4 := s4.box
      clear s4
      go_wp2
      exact ret_box2 Tryd.results5 25 (ucells (readN l l.length)) w.heap.size _ Tryd.underlying25 rfl HSZ.out _ rfl rfl b4 rfl ⟨rfl, HB4.out⟩

theorem Read_any (l : List UInt8) (hl : l.length ≤ 4611686018427387904) (w : World) :
    Calls Tryd.prog 5 #[.string (bs l)] w fun e w' => e = .returned (RT (readT l)) ∧ Below w.heap.size w w' := by
  by_cases h : l.length ≤ 32
  · exact Read_short l h w
  · exact Read_long l hl (by omega) w
end Go.Proofs.YtipdnkkkigmkdaaDoor.H
