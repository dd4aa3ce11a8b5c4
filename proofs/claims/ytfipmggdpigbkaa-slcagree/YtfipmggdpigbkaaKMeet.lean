/-
  Contract of slc.Meet; conditions: 38 bytes each.
-/
import Derived.Test.YtfipmggdpigbkaaKTakeAll
import Derived.Test.YtfipmggdpigbkaaKAll
import Derived.Test.YtfipmggdpigbkaaKEq
namespace Go.Proofs.Ytfipmggdpigbkaa.K
open Go.RowKit Go.Lib Go.Proofs.Ytfipmggdpigbkaa Go.Proofs.Ytfipmggdpigbkaa.W Go.Proofs.Ytfipmggdpigbkaa.Q

/-- both ends in turns: how often something was said -/
def talk : Nat → Nat → List UInt8 → List UInt8 → List UInt8 → List UInt8 × List UInt8 × Nat
  | 0, n, a, b, _ => (a, b, n)
  | g + 1, n, a, b, s =>
    match s with
    | [] => (a, b, n)
    | c :: r => if n % 2 = 0 then talk g (n + 1) a (takeT b (c :: r)).1 (takeT b (c :: r)).2.1 else talk g (n + 1) (takeT a (c :: r)).1 b (takeT a (c :: r)).2.1
theorem talk_end (g n : Nat) (a b : List UInt8) : talk g n a b [] = (a, b, n) := by cases g <;> rfl
theorem talk_b (g n : Nat) (a b s : List UInt8) (hs : s ≠ []) (hn : n % 2 = 0) : talk (g + 1) n a b s = talk g (n + 1) a (takeT b s).1 (takeT b s).2.1 := by
  cases s with
  | nil => exact absurd rfl hs
  | cons c r => rw [talk]; exact if_pos hn
theorem talk_a (g n : Nat) (a b s : List UInt8) (hs : s ≠ []) (hn : ¬ n % 2 = 0) : talk (g + 1) n a b s = talk g (n + 1) (takeT a s).1 b (takeT a s).2.1 := by
  cases s with
  | nil => exact absurd rfl hs
  | cons c r => rw [talk]; exact if_neg hn
theorem talk_len : ∀ (g n : Nat) (a b s : List UInt8), a.length = 38 → b.length = 38 → (talk g n a b s).1.length = 38 ∧ (talk g n a b s).2.1.length = 38
  | 0, n, a, b, s, ha, hb => ⟨ha, hb⟩
  | g + 1, n, a, b, s, ha, hb => by
    by_cases hs : s = []
    · subst hs; rw [talk_end]; exact ⟨ha, hb⟩
    · by_cases hn : n % 2 = 0
      · rw [talk_b g n a b s hs hn]; exact talk_len g _ _ _ _ ha (by rw [takeT_len]; exact hb)
      · rw [talk_a g n a b s hs hn]; exact talk_len g _ _ _ _ (by rw [takeT_len]; exact ha) hb
def meetT (a b : List UInt8) : List UInt8 × List UInt8 × Nat × Int :=
  if chk a = 0 ∧ chk b = 0 then ((talk 10 0 a b (text a)).1, (talk 10 0 a b (text a)).2.1, (talk 10 0 a b (text a)).2.2, 0) else (noK, noK, 0, 4)
def RM (r : List UInt8 × List UInt8 × Nat × Int) : Value := .tuple #[KV r.1, KV r.2.1, .int .i64 (r.2.2.1 : Int), .int .i64 r.2.2.2]
theorem meetT_len (a b : List UInt8) (ha : a.length = 38) (hb : b.length = 38) : (meetT a b).1.length = 38 ∧ (meetT a b).2.1.length = 38 := by
  unfold meetT
  split
  · exact talk_len 10 0 a b _ ha hb
  · exact ⟨rfl, rfl⟩

/-- results: two Keys that lie in blocks, and two more -/
theorem ret_meet {fn : Func} {R : Ending → World → Prop} {p q r r2 : Tmp} (h : fn.results = #[.cell p 24, .cell q 24, .tmp r, .tmp r2]) {a : Act} {w : World} (l m : List Value) (b c : Nat) (v v2 : Value)
    (hp : a.tmps[p]? = some (.pointer (some ⟨b, 0, none⟩))) (hq : a.tmps[q]? = some (.pointer (some ⟨c, 0, none⟩))) (hr : a.tmps[r]? = some v) (hr2 : a.tmps[r2]? = some v2) (hB : Box w b 24 l) (hC : Box w c 24 m) (h0 : a.defers = []) (hR : R (.returned (.tuple #[.agg l.toArray, .agg m.toArray, v, v2])) w) (hl : l.length = 38) (hm : m.length = 38) : bodyPost Try.prog fn R .ret a w := by
  refine bodyPost_ret (v := .tuple #[.agg l.toArray, .agg m.toArray, v, v2]) ?_ h0 hR
  simp [results, h, hp, hq, hr, hr2, asAddr, loadVar_box w 24 24 l b _ Try.underlying24 rfl (by rw [hl]; exact sizeK) hB, loadVar_box w 24 24 m c _ Try.underlying24 rfl (by rw [hm]; exact sizeK) hC]

/-- what the loop keeps -/
def MS (w : World) (F : List UInt8 × List UInt8 × Nat) (b1 b4 b5 : Nat) (g : Nat) (s8 s10 : Value) (wr : World) : Prop :=
  ∃ (n : Nat) (A B S : List UInt8), n ≤ 10 ∧ 10 - n ≤ g ∧ s10 = .int .i64 (n : Int) ∧ s8 = .string (bs S) ∧ Hid (talk (10 - n) n A B S = F) ∧ Hid (A.length = 38) ∧ Hid (B.length = 38) ∧ Hid (S.length ≤ 300) ∧ Hid (Box wr w.heap.size 24 (bcells A)) ∧ Hid (Box wr b1 24 (bcells B)) ∧ Hid (Box wr b4 24 (bcells noK)) ∧ Hid (Box wr b5 24 (bcells noK)) ∧ Hid (Below w.heap.size w wr)
attribute [local go_sem ↓] exec_loadK exec_storeK

set_option maxHeartbeats 16000000 in
theorem Meet_ok (a b : List UInt8) (ha : a.length = 38) (hb : b.length = 38) (h1 : chk a = 0) (h2 : chk b = 0) (w : World) :
    Calls Try.prog 15 #[KV a, KV b] w fun e w' => e = .returned (RM (meetT a b)) ∧ Below w.heap.size w w' := by
  have HZK := Hid.mk' zeroK
  have HA := Hid.mk' (All_any a ha)
  rw [allT_yes h1] at HA
  have HC := Hid.mk' (Check_any b hb)
  rw [h2] at HC
  have HSa := Hid.mk' (sizeKV a ha)
  have HSb := Hid.mk' (sizeKV b hb)
  have HTL := text_len a
  have HME : Hid (meetT a b = ((talk 10 0 a b (text a)).1, (talk 10 0 a b (text a)).2.1, (talk 10 0 a b (text a)).2.2, 0)) := by unfold meetT; exact if_pos ⟨h1, h2⟩
  have HST : Hid (∀ w1 w2 w3 wr : World, Box wr w.heap.size 24 (bcells a) → Box wr w1.heap.size 24 (bcells b) → Box wr w2.heap.size 24 (bcells noK) → Box wr w3.heap.size 24 (bcells noK) → Below w.heap.size w wr → MS w (talk 10 0 a b (text a)) w1.heap.size w2.heap.size w3.heap.size 10 (.string (bs (text a))) (.int .i64 0) wr) := fun w1 w2 w3 wr x1 x2 x3 x4 x5 =>
    ⟨0, a, b, text a, by omega, by omega, rfl, rfl, rfl, ha, hb, Hid.mk' (by omega), x1, x2, x3, x4, x5⟩
  unfold RA at HA
  dsimp only at HA
  generalize talk 10 0 a b (text a) = F at *
  unfold KV at *
  generalize hla : bcells a = la at *
  generalize hlb : bcells b = lb at *
  clear hla hlb HTL
  generalize bs (text a) = TA at *
  go_enter Try.func15, Try.ntmps15
  go_wp2_with (refine wpList_box la 24 rfl _ rfl rfl ?_)
  intro w1 m1
  go_wp2_with (refine wpList_box lb 24 rfl _ rfl rfl ?_)
  intro w2 m2
  go_wp2_with (refine wpList_alloc (bcells noK) 24 HZK.out rfl rfl ?_)
  intro w3 m3
  go_wp2_with (refine wpList_alloc (bcells noK) 24 HZK.out rfl rfl ?_)
  intro w4 m4
  have z1 := m1.lt
  have z2 := m2.lt
  have z3 := m3.lt
  have z4 := m4.lt
  have b0 := m4.keep (m3.keep (m2.keep m1.box))
  have b1 := m4.keep (m3.keep m2.box)
  have b2 := m4.keep m3.box
  have b3 := m4.box
  have HL := Hid.mk' (m4.below w.heap.size w (by omega) (m3.below _ _ (by omega) (m2.below _ _ (by omega) (m1.below _ _ (Nat.le_refl _) (Below.refl _ w)))))
  clear m1 m2 m3 m4
  go_wp2_with (refine wpList_load_box 24 24 la w.heap.size _ Try.underlying24 rfl HSa.out b0 rfl _ rfl rfl ?_)
  refine (HA.out _).mono ?_
  rintro e w5 ⟨rfl, h5⟩
  have c0 := b0.later h5
  have c1 := b1.later h5
  have c2 := b2.later h5
  have c3 := b3.later h5
  have HL5 := Hid.mk' (HL.out.trans (h5.mono (by omega)))
  have z5 := h5.size
  clear b0 b1 b2 b3 h5 HA
  go_wp2_with (refine wpList_load_box 24 24 lb w1.heap.size _ Try.underlying24 rfl HSb.out c1 rfl _ rfl rfl ?_)
  refine (HC.out _).mono ?_
  rintro e w6 ⟨rfl, h6⟩
  have HST2 := Hid.mk' (HST.out w1 w2 w3 w6 (c0.later h6) (c1.later h6) (c2.later h6) (c3.later h6) (HL5.out.trans (h6.mono (by omega))))
  clear c0 c1 c2 c3 h6 HST HC HL HL5
  go_wp2_with fail
  go_loopg [8, 10] 10 (fun g s8 s10 wr => MS w F w1.heap.size w2.heap.size w3.heap.size g s8 s10 wr)
  case atStart => exact HST2.out
  case round =>
    obtain ⟨n, A, B, S, hn, hg, rfl, rfl, HT, HAL, HBL, HSL, B0, B1, B2, B3, BL⟩ := hrel
    clear HST2
    have hcA : (bcells A).length = 38 := by rw [bcells_length, HAL.out]
    have hcB : (bcells B).length = 38 := by rw [bcells_length, HBL.out]
    by_cases hgo : S ≠ [] ∧ n < 10
    · obtain ⟨hs, hn10⟩ := hgo
      have hE : (bs S).toList.isEmpty = false := by rw [bs_list]; exact List.isEmpty_eq_false_iff.2 hs
      have n0 : (0 : Int) ≤ (n : Int) := by omega
      have n1 : (n : Int) < 10 := by omega
      obtain ⟨g', hg'⟩ : ∃ g', 10 - n = g' + 1 := ⟨10 - n - 1, by omega⟩
      have hg2 : 10 - (n + 1) = g' := by omega
      by_cases hp : n % 2 = 0
      · have hq : (((n : Int) + 1) % 2 == 1) = true := by rw [beq_iff_eq]; omega
        have HTK := Hid.mk' (Take_any B HBL.out S (by have := HSL.out; omega))
        have hX : (takeT B S).1.length = 38 := by rw [takeT_len]; exact HBL.out
        have hXS := takeT_said B S
        have HT2 : Hid (talk (10 - (n + 1)) (n + 1) A (takeT B S).1 (takeT B S).2.1 = F) := by rw [Hid, hg2, ← talk_b g' n A B S hs hp, ← hg']; exact HT.out
        unfold RK KV at HTK
        generalize takeT B S = X at *
        obtain ⟨x, v, er⟩ := X
        dsimp only at *
        have HSx := Hid.mk' (sizeKV x hX)
        have HOx := Hid.mk' (bcells_one x)
        have hcx : (bcells B).length = (bcells x).length := by rw [hcB, bcells_length, hX]
        have b1 := B1.out
        have HSB := Hid.mk' (sizeKV B HBL.out)
        clear hg' hg2 HT hp
        generalize bs S = S' at *
        go_wp2_with (refine wpList_load_box 24 24 (bcells B) w1.heap.size _ Try.underlying24 rfl HSB.out b1 rfl _ rfl rfl ?_)
        refine (HTK.out _).mono ?_
        rintro e w7 ⟨rfl, h7⟩
        have d0 := B0.out.later h7
        have d1 := B1.out.later h7
        have d2 := B2.out.later h7
        have d3 := B3.out.later h7
        have dL := Hid.mk' (BL.out.trans (h7.mono BL.out.size))
        clear b1 B0 B1 B2 B3 BL h7 HTK
        go_wp2_with (refine wpList_store_box 24 24 (bcells B) (bcells x) w1.heap.size HSx.out HOx.out d1 hcx rfl _ _ rfl rfl rfl ?_)
        intro w8 s8
        have f0 := Hid.mk' (s8.keep d0 (by omega))
        have f1 := Hid.mk' s8.box
        have f2 := Hid.mk' (s8.keep d2 (by omega))
        have f3 := Hid.mk' (s8.keep d3 (by omega))
        have fL := Hid.mk' (s8.below w.heap.size w (by omega) dL.out)
        clear s8 d0 d1 d2 d3 dL
        go_wp2
        go_roundg (10 - (n + 1))
        case measure => omega
        case rel => exact ⟨n + 1, A, x, v, by omega, by omega, by go_num, rfl, HT2, HAL, hX, hXS, f0, f1, f2, f3, fL⟩
      · have hq : (((n : Int) + 1) % 2 == 1) = false := by rw [beq_eq_false_iff_ne]; omega
        have HTK := Hid.mk' (Take_any A HAL.out S (by have := HSL.out; omega))
        have hX : (takeT A S).1.length = 38 := by rw [takeT_len]; exact HAL.out
        have hXS := takeT_said A S
        have HT2 : Hid (talk (10 - (n + 1)) (n + 1) (takeT A S).1 B (takeT A S).2.1 = F) := by rw [Hid, hg2, ← talk_a g' n A B S hs hp, ← hg']; exact HT.out
        unfold RK KV at HTK
        generalize takeT A S = X at *
        obtain ⟨x, v, er⟩ := X
        dsimp only at *
        have HSx := Hid.mk' (sizeKV x hX)
        have HOx := Hid.mk' (bcells_one x)
        have hcx : (bcells A).length = (bcells x).length := by rw [hcA, bcells_length, hX]
        have b0 := B0.out
        have HSA := Hid.mk' (sizeKV A HAL.out)
        clear hg' hg2 HT hp
        generalize bs S = S' at *
        go_wp2_with (refine wpList_load_box 24 24 (bcells A) w.heap.size _ Try.underlying24 rfl HSA.out b0 rfl _ rfl rfl ?_)
        refine (HTK.out _).mono ?_
        rintro e w7 ⟨rfl, h7⟩
        have d0 := B0.out.later h7
        have d1 := B1.out.later h7
        have d2 := B2.out.later h7
        have d3 := B3.out.later h7
        have dL := Hid.mk' (BL.out.trans (h7.mono BL.out.size))
        clear b0 B0 B1 B2 B3 BL h7 HTK
        go_wp2_with (refine wpList_store_box 24 24 (bcells A) (bcells x) w.heap.size HSx.out HOx.out d0 hcx rfl _ _ rfl rfl rfl ?_)
        intro w8 s8
        have f0 := Hid.mk' s8.box
        have f1 := Hid.mk' (s8.keep d1 (by omega))
        have f2 := Hid.mk' (s8.keep d2 (by omega))
        have f3 := Hid.mk' (s8.keep d3 (by omega))
        have fL := Hid.mk' (s8.below w.heap.size w (Nat.le_refl _) dL.out)
        clear s8 d0 d1 d2 d3 dL
        go_wp2
        go_roundg (10 - (n + 1))
        case measure => omega
        case rel => exact ⟨n + 1, x, B, v, by omega, by omega, by go_num, rfl, HT2, hX, HBL, hXS, f0, f1, f2, f3, fL⟩
    · have hF : F = (A, B, n) := by
        rw [← HT.out]
        by_cases hs : S = []
        · rw [hs, talk_end]
        · obtain rfl : n = 10 := by
            have : ¬ n < 10 := fun h => hgo ⟨hs, h⟩
            omega
          rfl
      subst hF
      have HRM : Hid (RM (meetT a b) = .tuple #[.agg (bcells A).toArray, .agg (bcells B).toArray, .int .i64 (n : Int), .int .i64 0]) := by rw [Hid, HME.out]; rfl
      have hkA : Holds (.agg (bcells A).toArray) 38 := KV.holds A HAL.out
      have hkB : Holds (.agg (bcells B).toArray) 38 := KV.holds B HBL.out
      have hS : SG wr.drew w2.heap.size 24 38 w3.heap.size 24 38 wr.drew := ⟨Below.refl _ _, ⟨_, B2.out.drew, rfl⟩, ⟨_, B3.out.drew, rfl⟩⟩
      have x0 := B0.out.drew
      have x1 := B1.out.drew
      have l0 : ∀ w', SG wr.drew w2.heap.size 24 38 w3.heap.size 24 38 w' → Lies w' (.pointer (some ⟨w.heap.size, 0, none⟩)) 38 := fun w' h => (x0.below h.1 (by omega)).lies0 hcA
      have r0 : ∀ w', SG wr.drew w2.heap.size 24 38 w3.heap.size 24 38 w' → Q.rowAt w' (.pointer (some ⟨w.heap.size, 0, none⟩)) 38 = bcells A := fun w' h => (x0.below h.1 (by omega)).row0 hcA
      have l1 : ∀ w', SG wr.drew w2.heap.size 24 38 w3.heap.size 24 38 w' → Lies w' (.pointer (some ⟨w1.heap.size, 0, none⟩)) 38 := fun w' h => (x1.below h.1 (by omega)).lies0 hcB
      have r1 : ∀ w', SG wr.drew w2.heap.size 24 38 w3.heap.size 24 38 w' → Q.rowAt w' (.pointer (some ⟨w1.heap.size, 0, none⟩)) 38 = bcells B := fun w' h => (x1.below h.1 (by omega)).row0 hcB
      have l2 : ∀ w', SG wr.drew w2.heap.size 24 38 w3.heap.size 24 38 w' → Lies w' (.pointer (some ⟨w2.heap.size, 0, none⟩)) 38 := fun w' h => h.2.1.lies
      have l3 : ∀ w', SG wr.drew w2.heap.size 24 38 w3.heap.size 24 38 w' → Lies w' (.pointer (some ⟨w3.heap.size, 0, none⟩)) 38 := fun w' h => h.2.2.lies
      have V6 := hS.2.1.put (bcells A) hcA
      have V7 := Hid.mk' ((hS.2.2.other (V6.other _ (by omega))).put (bcells B) hcB)
      have v6 := Hid.mk' (V7.out.keep V6.box (by omega))
      have VL := Hid.mk' (V7.out.below w.heap.size w (by omega) (V6.below _ _ (by omega) BL.out.drew))
      have HcA := Hid.mk' hcA
      have HcB := Hid.mk' hcB
      clear x0 x1 V6 HT B0 B1 B2 B3 BL hcA hcB
      have hstop : (bs S).toList.isEmpty = true ∨ ((bs S).toList.isEmpty = false ∧ ¬ (n : Int) < 10) := by
        rw [bs_list]
        by_cases hs : S = []
        · left; rw [hs]; rfl
        · right
          refine ⟨List.isEmpty_eq_false_iff.2 hs, fun h => hgo ⟨hs, by omega⟩⟩
      clear hgo
      generalize bs S = S' at *
      rcases hstop with hE | ⟨hE, hn10⟩
      all_goals
        go_wp2_with fail
        go_region_held3 (fun w' => SG wr.drew w2.heap.size 24 38 w3.heap.size 24 38 w') (first | with_reducible assumption | (with_reducible refine SG.put (by with_reducible assumption) z3 _ (by first | exact Or.inl ⟨rfl, HcA.out⟩ | exact Or.inr ⟨rfl, HcB.out⟩))) (fail)
        go_wp2
        exact ret_meet Try.results15 (bcells A) (bcells B) w2.heap.size w3.heap.size _ _ rfl rfl rfl rfl v6.out V7.out.box rfl ⟨by rw [HRM.out]; rfl, VL.out⟩ HcA.out HcB.out

theorem buildK0 (w : World) : (Instr.build 24 #[]).run Try.prog w = .ok (.agg (bcells noK).toArray) w := by kernel_rfl
section
variable {P : Program} {ops : Array Oper} {rest : List Oper} {op : Oper} {a : Act} {w : World} {Q : Exit → Act → World → Prop}
/-- a struct that is built of nothing -/
theorem wpList_buildN (l : List Value) (ty : TypeId) (hb : (Instr.build ty #[]).run P w = .ok (.agg l.toArray) w) (hgd : op.guard = none) (ho : op.op = .build ty #[])
    (h : wpList P ops Q rest (a.put op.dst (.agg l.toArray)) w) : wpList P ops Q (op :: rest) a w :=
  wpList_plain hgd fun _ hK => by
    unfold Oper.wp execOp
    simp only [ho, List.map_toArray, List.map_nil, hb, Sem.run_bind, Sem.run_pure, Result.andThen_ok]
    exact hK _ _ h
end

set_option maxHeartbeats 16000000 in
theorem Meet_no (a b : List UInt8) (ha : a.length = 38) (hb : b.length = 38) (h : chk a = 4 ∨ (chk a = 0 ∧ chk b = 4)) (w : World) :
    Calls Try.prog 15 #[KV a, KV b] w fun e w' => e = .returned (RM (noK, noK, 0, 4)) ∧ Below w.heap.size w w' := by
  have HZK := Hid.mk' zeroK
  have HBD := Hid.mk' buildK0
  have HA := Hid.mk' (All_any a ha)
  have HC := Hid.mk' (Check_any b hb)
  have HSa := Hid.mk' (sizeKV a ha)
  have HSb := Hid.mk' (sizeKV b hb)
  have HS0 := Hid.mk' (sizeKV noK rfl)
  have HO0 := Hid.mk' (bcells_one noK)
  have HRM : Hid (RM (noK, noK, 0, 4) = .tuple #[.agg (bcells noK).toArray, .agg (bcells noK).toArray, .int .i64 0, .int .i64 4]) := rfl
  have HL0 : Hid ((bcells noK).length = 38) := rfl
  unfold RA at HA
  unfold KV at *
  rcases h with h1 | ⟨h1, h2⟩
  · rw [allT_no h1] at HA
    dsimp only at HA
    generalize bcells a = la at *
    generalize bcells b = lb at *
    generalize bs _ = TA at HA
    generalize hz0 : bcells noK = z0 at *
    go_enter Try.func15, Try.ntmps15
    go_wp2_with (refine wpList_box la 24 rfl _ rfl rfl ?_)
    intro w1 m1
    go_wp2_with (refine wpList_box lb 24 rfl _ rfl rfl ?_)
    intro w2 m2
    go_wp2_with (refine wpList_alloc z0 24 HZK.out rfl rfl ?_)
    intro w3 m3
    go_wp2_with (refine wpList_alloc z0 24 HZK.out rfl rfl ?_)
    intro w4 m4
    have z1 := m1.lt
    have z2 := m2.lt
    have z3 := m3.lt
    have z4 := m4.lt
    have b0 := m4.keep (m3.keep (m2.keep m1.box))
    have b1 := m4.keep (m3.keep m2.box)
    have b2 := m4.keep m3.box
    have b3 := m4.box
    have HL := Hid.mk' (m4.below w.heap.size w (by omega) (m3.below _ _ (by omega) (m2.below _ _ (by omega) (m1.below _ _ (Nat.le_refl _) (Below.refl _ w)))))
    clear m1 m2 m3 m4
    go_wp2_with (refine wpList_load_box 24 24 la w.heap.size _ Try.underlying24 rfl HSa.out b0 rfl _ rfl rfl ?_)
    refine (HA.out _).mono ?_
    rintro e w5 ⟨rfl, h5⟩
    have c1 := b1.later h5
    have c2 := b2.later h5
    have c3 := b3.later h5
    have HL5 := Hid.mk' (HL.out.trans (h5.mono (by omega)))
    have z5 := h5.size
    clear b0 b1 b2 b3 h5 HA
    have d2 := c2
    have d3 := c3
    have HL6 := HL5
    clear c1 c2 c3
    go_wp2_with (first | (refine wpList_buildN z0 24 (HBD.out _) rfl rfl ?_) | (refine wpList_store_box 24 24 z0 z0 w2.heap.size HS0.out HO0.out d2 rfl rfl _ _ rfl rfl rfl ?_))
    intro w7 s7
    have e3 := s7.keep d3 (by omega)
    have e2 := s7.box
    have HL7 := Hid.mk' (s7.below w.heap.size w (by omega) HL6.out)
    clear s7 d2 d3
    go_wp2_with (refine wpList_store_box 24 24 z0 z0 w3.heap.size HS0.out HO0.out e3 rfl rfl _ _ rfl rfl rfl ?_)
    intro w8 s8
    have f2 := s8.keep e2 (by omega)
    have f3 := s8.box
    have HL8 := Hid.mk' (s8.below w.heap.size w (by omega) HL7.out)
    clear s8 e2 e3
    go_wp2
    exact ret_meet Try.results15 z0 z0 w2.heap.size w3.heap.size _ _ rfl rfl rfl rfl f2 f3 rfl ⟨by rw [HRM.out]; rfl, HL8.out⟩ HL0.out HL0.out
  · rw [allT_yes h1] at HA
    rw [h2] at HC
    dsimp only at HA
    generalize bcells a = la at *
    generalize bcells b = lb at *
    generalize bs _ = TA at HA
    generalize hz0 : bcells noK = z0 at *
    go_enter Try.func15, Try.ntmps15
    go_wp2_with (refine wpList_box la 24 rfl _ rfl rfl ?_)
    intro w1 m1
    go_wp2_with (refine wpList_box lb 24 rfl _ rfl rfl ?_)
    intro w2 m2
    go_wp2_with (refine wpList_alloc z0 24 HZK.out rfl rfl ?_)
    intro w3 m3
    go_wp2_with (refine wpList_alloc z0 24 HZK.out rfl rfl ?_)
    intro w4 m4
    have z1 := m1.lt
    have z2 := m2.lt
    have z3 := m3.lt
    have z4 := m4.lt
    have b0 := m4.keep (m3.keep (m2.keep m1.box))
    have b1 := m4.keep (m3.keep m2.box)
    have b2 := m4.keep m3.box
    have b3 := m4.box
    have HL := Hid.mk' (m4.below w.heap.size w (by omega) (m3.below _ _ (by omega) (m2.below _ _ (by omega) (m1.below _ _ (Nat.le_refl _) (Below.refl _ w)))))
    clear m1 m2 m3 m4
    go_wp2_with (refine wpList_load_box 24 24 la w.heap.size _ Try.underlying24 rfl HSa.out b0 rfl _ rfl rfl ?_)
    refine (HA.out _).mono ?_
    rintro e w5 ⟨rfl, h5⟩
    have c1 := b1.later h5
    have c2 := b2.later h5
    have c3 := b3.later h5
    have HL5 := Hid.mk' (HL.out.trans (h5.mono (by omega)))
    have z5 := h5.size
    clear b0 b1 b2 b3 h5 HA
    go_wp2_with (refine wpList_load_box 24 24 lb w1.heap.size _ Try.underlying24 rfl HSb.out c1 rfl _ rfl rfl ?_)
    refine (HC.out _).mono ?_
    rintro e w6 ⟨rfl, h6⟩
    have d2 := c2.later h6
    have d3 := c3.later h6
    have HL6 := Hid.mk' (HL5.out.trans (h6.mono (by omega)))
    have z6 := h6.size
    clear c1 c2 c3 h6 HC
    go_wp2_with (first | (refine wpList_buildN z0 24 (HBD.out _) rfl rfl ?_) | (refine wpList_store_box 24 24 z0 z0 w2.heap.size HS0.out HO0.out d2 rfl rfl _ _ rfl rfl rfl ?_))
    intro w7 s7
    have e3 := s7.keep d3 (by omega)
    have e2 := s7.box
    have HL7 := Hid.mk' (s7.below w.heap.size w (by omega) HL6.out)
    clear s7 d2 d3
    go_wp2_with (refine wpList_store_box 24 24 z0 z0 w3.heap.size HS0.out HO0.out e3 rfl rfl _ _ rfl rfl rfl ?_)
    intro w8 s8
    have f2 := s8.keep e2 (by omega)
    have f3 := s8.box
    have HL8 := Hid.mk' (s8.below w.heap.size w (by omega) HL7.out)
    clear s8 e2 e3
    go_wp2
    exact ret_meet Try.results15 z0 z0 w2.heap.size w3.heap.size _ _ rfl rfl rfl rfl f2 f3 rfl ⟨by rw [HRM.out]; rfl, HL8.out⟩ HL0.out HL0.out

theorem Meet_any (a b : List UInt8) (ha : a.length = 38) (hb : b.length = 38) (w : World) :
    Calls Try.prog 15 #[KV a, KV b] w fun e w' => e = .returned (RM (meetT a b)) ∧ Below w.heap.size w w' := by
  by_cases h : chk a = 0 ∧ chk b = 0
  · exact Meet_ok a b ha hb h.1 h.2 w
  · have e : meetT a b = (noK, noK, 0, 4) := by unfold meetT; exact if_neg h
    rw [e]
    refine Meet_no a b ha hb ?_ w
    rcases chk2 a with h1 | h1
    · rcases chk2 b with h2 | h2
      · exact absurd ⟨h1, h2⟩ h
      · exact .inr ⟨h1, h2⟩
    · exact .inl h1
end Go.Proofs.Ytfipmggdpigbkaa.K
