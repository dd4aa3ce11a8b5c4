/-
  The walk of farkeep.LineErases; conditions: texts of at most 2^47 bytes.
-/
import Derived.Test.YtomgnnbcaficaaaDoorLSpecial
import Derived.Test.YtomgnnbcaficaaaDoorLShelf
import Derived.Deep.RegionHeld3
import Derived.BigQuiet
namespace Go.Proofs.YtomgnnbcaficaaaDoor.L
open Go.RowKit Go.Lib Go.Proofs.YtomgnnbcaficaaaDoor Go.Proofs.YtomgnnbcaficaaaDoor.W Go.Proofs.YtomgnnbcaficaaaDoor.Q

/-- nothing old has become other -/
def Ext (w w' : World) : Prop := Below w.heap.size w w'
theorem Ext.refl (w : World) : Ext w w := Below.refl _ w
theorem Ext.trans {a b c : World} (h : Ext a b) (h2 : Ext b c) : Ext a c := Below.trans h (Below.mono h2 (Below.size h))
theorem Ext.size {a b : World} (h : Ext a b) : a.heap.size ≤ b.heap.size := Below.size h
theorem exec_loadK (ρ : Operand → Value) (x : Operand) (dst : Option Tmp) (t : TypeId) (pos : String) (af : Array Edge) (g : Option (Nat × Bool)) (w : World) (h : Lies w (ρ x) 38) :
    (execOp ρ { dst := dst, op := .load 26 x, type := t, pos := pos, after := af, guard := g }).run Tryd.prog w = .ok (.value (.agg (Q.rowAt w (ρ x) 38).toArray)) w :=
  exec_load 26 38 _ Tryd.underlying26 rfl K.sizeK ρ x dst t pos af g w h
attribute [local go_sem ↓] exec_loadK

/-- no byte that means something, and none that ends a line -/
def tame (c : UInt8) : Bool := !(sp (comK 5) c) && decide (c ≠ 13 ∧ c ≠ 10)
theorem tame_ends {c : UInt8} (h : tame c = true) : plainB (KK (comK 5) H.noW) c ∧ (KK (comK 5) H.noW).ends c = false := by
  unfold tame at h
  rw [Bool.and_eq_true] at h
  obtain ⟨h1, h2⟩ := h
  have h1' : sp (comK 5) c = false := by simpa using h1
  have h2' := of_decide_eq_true h2
  refine ⟨sp_plain h1', ?_⟩
  have hk : ∀ f, f = 17 ∨ f = 18 → isK (comK 5) f c = false := fun f hf => by
    unfold isK
    rcases hf with rfl | rfl
    · exact decide_eq_false (fun e => e.1 (by decide))
    · exact decide_eq_false (fun e => e.1 (by decide))
  have hm : H.mem H.noW c.toNat = false := by
    have key : ∀ x : Fin 256, H.mem H.noW x.val = false := by decide +kernel
    exact key ⟨c.toNat, c.toNat_lt⟩
  show (decide (c = 13 ∨ c = 10) || (isK (comK 5) 17 c || (isK (comK 5) 18 c || H.mem H.noW c.toNat))) = false
  rw [hk 17 (.inl rfl), hk 18 (.inr rfl), hm, decide_eq_false (fun e => e.elim h2'.1 h2'.2)]
  rfl
theorem com_keys : (KK (comK 5) H.noW).quote 21 = false ∧ (KK (comK 5) H.noW).char 21 = false ∧ (KK (comK 5) H.noW).word 21 = false ∧ (KK (comK 5) H.noW).line 21 = true ∧ (KK (comK 5) H.noW).quote 127 = false ∧ (KK (comK 5) H.noW).char 127 = true := by decide
/-- all at once, and byte by byte -/
theorem erase_all (B T : List UInt8) (h : B.length + T.length < 1024) (ht : ∀ c ∈ T, tame c = true) :
    (runS (KK (comK 5) H.noW) ⟨B, false, [], []⟩ (T ++ [21])).buf = [] ∧ (runS (KK (comK 5) H.noW) ⟨B, false, [], []⟩ (T ++ [21])).q = false ∧ (runS (KK (comK 5) H.noW) ⟨B, false, [], []⟩ (T ++ [21])).ls = [] := by
  have hp := run_put (KK (comK 5) H.noW) T B h (fun b hb => tame_ends (ht b hb))
  have hl := step_line com_keys.1 com_keys.2.1 com_keys.2.2.1 com_keys.2.2.2.1 (B ++ T)
  unfold runS
  simp only [run_app, hp, run_cons, run_nil, hl, gone]
  simp
theorem erase_each (B T : List UInt8) (h : B.length + T.length < 1024) (ht : ∀ c ∈ T, tame c = true) :
    (runS (KK (comK 5) H.noW) ⟨B, false, [], []⟩ (T ++ List.replicate T.length 127)).buf = B ∧ (runS (KK (comK 5) H.noW) ⟨B, false, [], []⟩ (T ++ List.replicate T.length 127)).q = false ∧ (runS (KK (comK 5) H.noW) ⟨B, false, [], []⟩ (T ++ List.replicate T.length 127)).ls = [] := by
  have hp := run_put (KK (comK 5) H.noW) T B h (fun b hb => tame_ends (ht b hb))
  obtain ⟨h1, h2⟩ := run_rub com_keys.2.2.2.2.1 com_keys.2.2.2.2.2 T.length B T rfl
  unfold runS
  simp only [run_app, hp, h1, h2]
  simp
theorem rep_one (c : UInt8) : ∀ n, Lib.repeatL [c] n = List.replicate n c
  | 0 => rfl
  | n + 1 => by
    have h := rep_one c n
    simp only [Lib.repeatL, List.replicate_succ] at *
    simp [h]
theorem com_chk : K.chk (comK 5) = 0 := by decide

-- WALK
set_option maxHeartbeats 32000000 in
set_option maxRecDepth 100000 in
theorem LineErases_any (B : List UInt8) (q : Bool) (T : List UInt8) (all : Bool) (w : World) (hBl : B.length ≤ 140737488355328) (hTl : T.length ≤ 140737488355328) :
    Calls Tryd.prog 7 #[.agg #[.string (bs B), .bool q], .string (bs T), .bool all] w fun e w' => e = .returned (.bool true) ∧ Below w.heap.size w w' := by
  have HLV := Hid.mk' lives_any
  have HLK := Hid.mk' lineKeys_any
  have HSP := Hid.mk' (fun c W => special_any (comK 5) (comK_len 5 (Nat.le_refl _)) c W)
  have HSK := Hid.mk' (K.sizeKV (comK 5) (comK_len 5 (Nat.le_refl _)))
  have HKL : Hid ((bcells (comK 5)).length = 38) := by rw [Hid, bcells_length, comK_len 5 (Nat.le_refl _)]
  have HKO := Hid.mk' (bcells_one (comK 5))
  have HKZ := Hid.mk' K.zeroK
  have HZL : Hid ((bcells K.noK).length = (bcells (comK 5)).length) := rfl
  have hsz := bs_size T
  have hsB := bs_size B
  have HGT : Hid (∀ n (h : n < T.length) (h2 : n < (bs T).size), (bs T)[n]'h2 = T[n]'h) := fun n h h2 => bs_get T n h h2
  have HM := Hid.mk' buildM
  have HC1 : Hid (B.length + T.length < 1024 → (∀ c ∈ T, tame c = true) → ∀ W, Calls Tryd.prog 9 #[.agg #[.string (bs B), .bool false], .agg (bcells (comK 5)).toArray, .agg (H.ucells H.noW).toArray, .string (bs T ++ { data := #[21] })] W fun e w' => ∃ al cl n x, Hid (n = 0) ∧ e = .returned (.tuple #[.agg #[.string { data := #[] }, .bool false], .slice al n cl, .string x, .int .i64 0]) ∧ Below W.heap.size W w') := fun h1 h2 W => by
    obtain ⟨e1, e2, e3⟩ := erase_all B T h1 h2
    have hr : ref B.length (comK 5) (T ++ [21]).length = 0 := ref_zero.2 ⟨by omega, com_chk, by rw [List.length_append, List.length_singleton]; omega⟩
    have ht : typeT (comK 5) H.noW B false (T ++ [21]) = (runS (KK (comK 5) H.noW) ⟨B, false, [], []⟩ (T ++ [21]), 0) := (typeT_form _ _ B (T ++ [21]) false).elim (fun h => h.2) (fun h => absurd hr h.1)
    have hc := type_call (comK 5) (comK_len 5 (Nat.le_refl _)) H.noW noW_ok B (T ++ [21]) false W _ _ _ ht rfl rfl
    rw [show bs T ++ { data := #[21] } = bs (T ++ [21]) from bs_app T [21]]
    refine hc.mono fun e w' h => ?_
    obtain ⟨al, cl, n, hn, he, _, hb⟩ := h
    exact ⟨al, cl, n, _, by rw [Hid, hn.out, e3]; rfl, by rw [he, e1, e2]; rfl, hb⟩
  have HC2 : Hid (B.length + T.length < 1024 → (∀ c ∈ T, tame c = true) → ∀ W, Calls Tryd.prog 9 #[.agg #[.string (bs B), .bool false], .agg (bcells (comK 5)).toArray, .agg (H.ucells H.noW).toArray, .string (bs T ++ bs (List.replicate T.length 127))] W fun e w' => ∃ al cl n x, Hid (n = 0) ∧ e = .returned (.tuple #[.agg #[.string (bs B), .bool false], .slice al n cl, .string x, .int .i64 0]) ∧ Below W.heap.size W w') := fun h1 h2 W => by
    obtain ⟨e1, e2, e3⟩ := erase_each B T h1 h2
    have hr : ref B.length (comK 5) (T ++ List.replicate T.length 127).length = 0 := ref_zero.2 ⟨by omega, com_chk, by rw [List.length_append, List.length_replicate]; omega⟩
    have ht : typeT (comK 5) H.noW B false (T ++ List.replicate T.length 127) = (runS (KK (comK 5) H.noW) ⟨B, false, [], []⟩ (T ++ List.replicate T.length 127), 0) := (typeT_form _ _ B _ false).elim (fun h => h.2) (fun h => absurd hr h.1)
    have hc := type_call (comK 5) (comK_len 5 (Nat.le_refl _)) H.noW noW_ok B (T ++ List.replicate T.length 127) false W _ _ _ ht rfl rfl
    rw [bs_app]
    refine hc.mono fun e w' h => ?_
    obtain ⟨al, cl, n, hn, he, _, hb⟩ := h
    exact ⟨al, cl, n, _, by rw [Hid, hn.out, e3]; rfl, by rw [he, e1, e2], hb⟩
  have HRP : Hid (B.length + T.length < 1024 → ∀ W, Calls Tryd.prog 24 #[.string { data := #[127] }, .int .i64 (T.length : Int)] W fun e w' => e = .returned (.string (bs (List.replicate T.length 127))) ∧ Below W.heap.size W w') := fun h1 W => by
    have h := Tryd.strings_Repeat { data := #[127] } T.length W (by omega) (by show 1 * T.length ≤ 140737488355328; omega)
    rw [show ({ data := #[127] } : ByteArray).data.toList = [127] from rfl, rep_one] at h
    exact h
  have HTM : Hid (∀ n (h : n < T.length), (∀ c ∈ T.take n, tame c = true) → tame (T[n]'h) = true → ∀ c ∈ T.take (n + 1), tame c = true) := fun n h h1 h2 c hc => by
    rw [List.take_succ_eq_append_getElem h] at hc
    rcases List.mem_append.1 hc with h3 | h3
    · exact h1 c h3
    · simp only [List.mem_singleton] at h3
      rw [h3]; exact h2
  have HTA : Hid (T.take T.length = T) := List.take_length
  have hrl : (bs (List.replicate T.length 127)).size = T.length := by rw [bs_size, List.length_replicate]
  unfold K.KV at HLK
  generalize bs (List.replicate T.length 127) = RP at *
  generalize bs T = T1 at *
  generalize bs B = X at *
  generalize hk : bcells (comK 5) = l at *
  generalize hz : bcells K.noK = z at *
  generalize hm : H.ucells H.noW = m at *
  clear hk hz hm
  go_enter Tryd.func7, Tryd.ntmps7
  go_wp2_with (refine wpList_box [.string X, .bool q] 23 rfl _ rfl rfl ?_)
  intro w1 m1
  have c1 := m1.box.cell (j := 1) rfl
  have f1 := m1.box.frozen 1
  have b1 : Box (w1.setCell ⟨w.heap.size, 1, none⟩ (.bool false)) w.heap.size 23 [.string X, .bool false] := m1.box.setCell 1 (.bool false)
  have HB1 := Hid.mk' ((m1.below _ _ (Nat.le_refl _) (Below.refl _ w)).setCell (p := ⟨w.heap.size, 1, none⟩) (Nat.le_refl _) (.bool false))
  have BX1 := Hid.mk' b1
  clear m1 b1
  go_wp2_with fail
  refine (HLK.out _).mono ?_
  rintro e w2 ⟨rfl, h2⟩
  have BX2 := Hid.mk' (BX1.out.later h2)
  have HB2 := Hid.mk' (HB1.out.trans (Below.mono h2 HB1.out.size))
  clear h2 BX1 HB1 c1 f1
  have z2 := BX2.out.lt
  go_wp2_with (refine wpList_alloc z 26 HKZ.out rfl rfl ?_)
  intro w3 m3
  have Y3 := Hid.mk' m3.box
  have HB3 := Hid.mk' (m3.below w.heap.size w (by omega) HB2.out)
  have BX3 := Hid.mk' (m3.keep BX2.out)
  have z3 := m3.lt
  clear m3 HB2 BX2
  go_wp2_with (refine wpList_store_box 26 26 z l w2.heap.size HSK.out HKO.out Y3.out HZL.out rfl _ _ rfl rfl rfl ?_)
  intro w4 s4
  have BK4 := Hid.mk' s4.box
  have BX4 := Hid.mk' (s4.keep BX3.out (by omega))
  have HB4 := Hid.mk' (s4.below w.heap.size w (by omega) HB3.out)
  have z4 : w2.heap.size < w4.heap.size := s4.box.lt
  clear s4 HB3 BX3 Y3
  have HST : Hid (∃ n : Nat, n ≤ T.length ∧ T.length - n ≤ T.length ∧ (Value.int .i64 0) = .int .i64 (n : Int) ∧ Hid (∀ c ∈ T.take n, tame c = true) ∧ Hid (Box w4 w.heap.size 23 [.string X, .bool false]) ∧ Hid (Box w4 w2.heap.size 26 l) ∧ Hid (Below w.heap.size w w4)) := ⟨0, Nat.zero_le _, by omega, rfl, fun c hc => by simp at hc, BX4.out, BK4.out, HB4.out⟩
  clear BX4 BK4 HB4
  go_wp2_with fail
  go_loopg [21] T.length (fun g s21 wr => ∃ n : Nat, n ≤ T.length ∧ T.length - n ≤ g ∧ s21 = .int .i64 (n : Int) ∧ Hid (∀ c ∈ T.take n, tame c = true) ∧ Hid (Box wr w.heap.size 23 [.string X, .bool false]) ∧ Hid (Box wr w2.heap.size 26 l) ∧ Hid (Below w.heap.size w wr))
  case atStart => exact HST.out
  case round =>
    obtain ⟨n, hn, hg, rfl, HO, BX, BK, HB⟩ := hrel
    have HG := Hid.mk' hg
    clear hg HST
    by_cases hlt : n < T.length
    · have hgt := HGT.out n hlt (by rw [hsz]; exact hlt)
      have HTM1 := Hid.mk' (HTM.out n hlt HO.out)
      have HS1 := Hid.mk' (HSP.out (T[n]'hlt))
      have htm : tame (T[n]'hlt) = (!(sp (comK 5) (T[n]'hlt)) && decide (((T[n]'hlt).toNat : Int) ≠ 13 ∧ ((T[n]'hlt).toNat : Int) ≠ 10)) := by
        unfold tame
        congr 1
        have e13 : (13 : UInt8).toNat = 13 := rfl
        have e10 : (10 : UInt8).toNat = 10 := rfl
        rw [decide_eq_decide, Ne, Ne, ← UInt8.toNat_inj, ← UInt8.toNat_inj, e13, e10]
        omega
      rw [htm] at HTM1
      clear htm HTM HGT HSP HC1 HC2 HRP
      generalize T[n]'hlt = c at *
      generalize sp (comK 5) c = sc at *
      generalize hyy : (c.toNat : Int) = y at *
      have HY := Hid.mk' hyy
      clear hyy
      have hE : Ext wr.drew wr.drew := Ext.refl _
      have l0 : ∀ w', Ext wr.drew w' → Lies w' (.pointer (some ⟨w2.heap.size, 0, none⟩)) 38 := fun w' h => (BK.out.drew.later h).lies0 HKL.out
      have r0 : ∀ w', Ext wr.drew w' → Q.rowAt w' (.pointer (some ⟨w2.heap.size, 0, none⟩)) 38 = l := fun w' h => (BK.out.drew.later h).row0 HKL.out
      have BXD := Hid.mk' BX.out.drew
      have BKD := Hid.mk' BK.out.drew
      have HBD := Hid.mk' HB.out.drew
      clear BX BK HB
      cases sc with
      | true =>
        go_wp2_with fail
        refine wp_region_noPanic ?_
        refine wp_region_held_drew (S := fun w' => Ext wr.drew w') (by kernel_rfl) hE (fun hHeld => ?_)
        refine wpAnyH_take (i := 0) (oi := { dst := some 24, op := Go.Op.load 26 (Go.Operand.tmp 7), type := 26, pos := _, after := #[], guard := none }) (v := .agg l.toArray) rfl (by kernel_rfl) (by kernel_rfl) (by kernel_rfl) (fun _ _ _ h => h) (Or.inl ⟨by rfl, fun w' hSw => ?_⟩) (by assumption) ?_
        · exact (exec_loadK _ _ _ _ _ _ _ _ (l0 _ hSw)).trans (congrArg (fun z : List Value => Result.ok (Next.value (.agg z.toArray)) w') (r0 _ hSw))
        (try simp only [Act.put]); (try simp only [List.setIfInBounds_toArray]); (try simp only [List.set_cons_succ]); (try simp only [List.set_cons_zero])
        refine wpAnyH_take (i := 1) (oi := { dst := some 25, op := Go.Op.move (Go.Operand.tmp 1), type := 9, pos := _, after := #[], guard := none }) (v := .string T1) rfl (by kernel_rfl) (by kernel_rfl) (by kernel_rfl) (fun _ _ _ h => h) (Or.inl ⟨by rfl, fun w' hSw => ?_⟩) (by assumption) ?_
        · (try dsimp only at hSw); go_simp
        (try simp only [Act.put]); (try simp only [List.setIfInBounds_toArray]); (try simp only [List.set_cons_succ]); (try simp only [List.set_cons_zero])
        refine wpAnyH_take (i := 2) (oi := { dst := some 26, op := Go.Op.move (Go.Operand.tmp 8), type := 3, pos := _, after := #[], guard := none }) (v := .int .i64 (n : Int)) rfl (by kernel_rfl) (by kernel_rfl) (by kernel_rfl) (fun _ _ _ h => h) (Or.inl ⟨by rfl, fun w' hSw => ?_⟩) (by assumption) ?_
        · (try dsimp only at hSw); go_simp
        (try simp only [Act.put]); (try simp only [List.setIfInBounds_toArray]); (try simp only [List.set_cons_succ]); (try simp only [List.set_cons_zero])
        refine wpAnyH_take (i := 3) (oi := { dst := some 27, op := Go.Op.index 9 (Go.Operand.tmp 25) (Go.Operand.tmp 26), type := 5, pos := _, after := #[{ on := 1, ground := Go.Ground.data }, { on := 2, ground := Go.Ground.data }], guard := none }) (v := .int .u8 y) rfl (by kernel_rfl) (by kernel_rfl) (by kernel_rfl) (fun _ _ _ h => h) (Or.inl ⟨by rfl, fun w' hSw => ?_⟩) (by assumption) ?_
        · (try dsimp only at hSw); go_simp; exact HY.out
        (try simp only [Act.put]); (try simp only [List.setIfInBounds_toArray]); (try simp only [List.set_cons_succ]); (try simp only [List.set_cons_zero])
        refine wpAnyH_ready (rs := [4]) (by kernel_rfl) (by simp) ?_
        refine AllReadyH.cons (o := { dst := some 28, op := Go.Op.call { callee := Go.Callee.value (Go.Operand.func 15), args := #[Go.Operand.tmp 24, Go.Operand.tmp 27], argTypes := #[26, 5] }, type := 4, pos := _, after := #[{ on := 0, ground := Go.Ground.data }, { on := 3, ground := Go.Ground.data }], guard := none }) rfl (fun K hK => ?_) ?_
        · skip
          go_simp
          refine (HS1.out _).mono ?_
          rintro e v1 ⟨rfl, hbv1⟩
          have e1 : Ext wr.drew v1 := Ext.trans hE hbv1
          go_wp2_with fail
          refine hK.out _ _ e1 (fun hHeld => ?_)
          clear hK K
          (try simp only [Act.put]); (try simp only [List.setIfInBounds_toArray]); (try simp only [List.set_cons_succ]); (try simp only [List.set_cons_zero])
          refine wpAnyH_take (i := 5) (oi := { dst := some 29, op := Go.Op.move (Go.Operand.tmp 28), type := 4, pos := _, after := #[{ on := 4, ground := Go.Ground.data }, { on := 4, ground := Go.Ground.chain }], guard := none }) (v := .bool true) rfl (by kernel_rfl) (by kernel_rfl) (by kernel_rfl) (fun _ _ _ h => h) (Or.inl ⟨by rfl, fun w' hSw => ?_⟩) (by assumption) ?_
          · (try dsimp only at hSw); go_simp
          (try simp only [Act.put]); (try simp only [List.setIfInBounds_toArray]); (try simp only [List.set_cons_succ]); (try simp only [List.set_cons_zero])
          refine wpAnyH_take (i := 6) (oi := { dst := some 30, op := Go.Op.move (Go.Operand.tmp 1), type := 9, pos := _, after := #[{ on := 5, ground := Go.Ground.guard }], guard := some (5, false) }) (v := undef) rfl (by kernel_rfl) (by kernel_rfl) (by kernel_rfl) (fun _ _ _ h => h) (Or.inr ⟨by rfl, rfl⟩) (by assumption) ?_
          (try simp only [Act.put]); (try simp only [List.setIfInBounds_toArray]); (try simp only [List.set_cons_succ]); (try simp only [List.set_cons_zero])
          refine wpAnyH_take (i := 7) (oi := { dst := some 31, op := Go.Op.move (Go.Operand.tmp 8), type := 3, pos := _, after := #[{ on := 5, ground := Go.Ground.guard }], guard := some (5, false) }) (v := undef) rfl (by kernel_rfl) (by kernel_rfl) (by kernel_rfl) (fun _ _ _ h => h) (Or.inr ⟨by rfl, rfl⟩) (by assumption) ?_
          (try simp only [Act.put]); (try simp only [List.setIfInBounds_toArray]); (try simp only [List.set_cons_succ]); (try simp only [List.set_cons_zero])
          refine wpAnyH_take (i := 8) (oi := { dst := some 32, op := Go.Op.index 9 (Go.Operand.tmp 30) (Go.Operand.tmp 31), type := 5, pos := _, after := #[{ on := 6, ground := Go.Ground.data }, { on := 7, ground := Go.Ground.data }, { on := 5, ground := Go.Ground.guard }], guard := some (5, false) }) (v := undef) rfl (by kernel_rfl) (by kernel_rfl) (by kernel_rfl) (fun _ _ _ h => h) (Or.inr ⟨by rfl, rfl⟩) (by assumption) ?_
          (try simp only [Act.put]); (try simp only [List.setIfInBounds_toArray]); (try simp only [List.set_cons_succ]); (try simp only [List.set_cons_zero])
          refine wpAnyH_take (i := 9) (oi := { dst := some 33, op := Go.Op.binOp Go.BinOp.eql 5 (Go.Operand.tmp 32) (Go.Operand.const (Go.Value.int Go.IntKind.u8 13)) 5, type := 4, pos := _, after := #[{ on := 8, ground := Go.Ground.data }, { on := 5, ground := Go.Ground.guard }], guard := some (5, false) }) (v := undef) rfl (by kernel_rfl) (by kernel_rfl) (by kernel_rfl) (fun _ _ _ h => h) (Or.inr ⟨by rfl, rfl⟩) (by assumption) ?_
          (try simp only [Act.put]); (try simp only [List.setIfInBounds_toArray]); (try simp only [List.set_cons_succ]); (try simp only [List.set_cons_zero])
          refine wpAnyH_take (i := 10) (oi := { dst := some 34, op := Go.Op.pick (Go.Operand.tmp 29) (Go.Operand.const (Go.Value.bool true)) (Go.Operand.tmp 33), type := 4, pos := _, after := #[{ on := 5, ground := Go.Ground.data }, { on := 9, ground := Go.Ground.data }], guard := none }) (v := .bool true) rfl (by kernel_rfl) (by kernel_rfl) (by kernel_rfl) (fun _ _ _ h => h) (Or.inl ⟨by rfl, fun w' hSw => ?_⟩) (by assumption) ?_
          · (try dsimp only at hSw); go_simp
          (try simp only [Act.put]); (try simp only [List.setIfInBounds_toArray]); (try simp only [List.set_cons_succ]); (try simp only [List.set_cons_zero])
          refine wpAnyH_take (i := 11) (oi := { dst := some 35, op := Go.Op.move (Go.Operand.tmp 34), type := 4, pos := _, after := #[{ on := 10, ground := Go.Ground.data }, { on := 5, ground := Go.Ground.chain }], guard := none }) (v := .bool true) rfl (by kernel_rfl) (by kernel_rfl) (by kernel_rfl) (fun _ _ _ h => h) (Or.inl ⟨by rfl, fun w' hSw => ?_⟩) (by assumption) ?_
          · (try dsimp only at hSw); go_simp
          (try simp only [Act.put]); (try simp only [List.setIfInBounds_toArray]); (try simp only [List.set_cons_succ]); (try simp only [List.set_cons_zero])
          refine wpAnyH_take (i := 12) (oi := { dst := some 36, op := Go.Op.move (Go.Operand.tmp 1), type := 9, pos := _, after := #[{ on := 11, ground := Go.Ground.guard }], guard := some (11, false) }) (v := undef) rfl (by kernel_rfl) (by kernel_rfl) (by kernel_rfl) (fun _ _ _ h => h) (Or.inr ⟨by rfl, rfl⟩) (by assumption) ?_
          (try simp only [Act.put]); (try simp only [List.setIfInBounds_toArray]); (try simp only [List.set_cons_succ]); (try simp only [List.set_cons_zero])
          refine wpAnyH_take (i := 13) (oi := { dst := some 37, op := Go.Op.move (Go.Operand.tmp 8), type := 3, pos := _, after := #[{ on := 11, ground := Go.Ground.guard }], guard := some (11, false) }) (v := undef) rfl (by kernel_rfl) (by kernel_rfl) (by kernel_rfl) (fun _ _ _ h => h) (Or.inr ⟨by rfl, rfl⟩) (by assumption) ?_
          (try simp only [Act.put]); (try simp only [List.setIfInBounds_toArray]); (try simp only [List.set_cons_succ]); (try simp only [List.set_cons_zero])
          refine wpAnyH_take (i := 14) (oi := { dst := some 38, op := Go.Op.index 9 (Go.Operand.tmp 36) (Go.Operand.tmp 37), type := 5, pos := _, after := #[{ on := 12, ground := Go.Ground.data }, { on := 13, ground := Go.Ground.data }, { on := 11, ground := Go.Ground.guard }], guard := some (11, false) }) (v := undef) rfl (by kernel_rfl) (by kernel_rfl) (by kernel_rfl) (fun _ _ _ h => h) (Or.inr ⟨by rfl, rfl⟩) (by assumption) ?_
          (try simp only [Act.put]); (try simp only [List.setIfInBounds_toArray]); (try simp only [List.set_cons_succ]); (try simp only [List.set_cons_zero])
          refine wpAnyH_take (i := 15) (oi := { dst := some 39, op := Go.Op.binOp Go.BinOp.eql 5 (Go.Operand.tmp 38) (Go.Operand.const (Go.Value.int Go.IntKind.u8 10)) 5, type := 4, pos := _, after := #[{ on := 14, ground := Go.Ground.data }, { on := 11, ground := Go.Ground.guard }], guard := some (11, false) }) (v := undef) rfl (by kernel_rfl) (by kernel_rfl) (by kernel_rfl) (fun _ _ _ h => h) (Or.inr ⟨by rfl, rfl⟩) (by assumption) ?_
          (try simp only [Act.put]); (try simp only [List.setIfInBounds_toArray]); (try simp only [List.set_cons_succ]); (try simp only [List.set_cons_zero])
          refine wpAnyH_take (i := 16) (oi := { dst := some 40, op := Go.Op.pick (Go.Operand.tmp 35) (Go.Operand.const (Go.Value.bool true)) (Go.Operand.tmp 39), type := 4, pos := _, after := #[{ on := 11, ground := Go.Ground.data }, { on := 15, ground := Go.Ground.data }], guard := none }) (v := .bool true) rfl (by kernel_rfl) (by kernel_rfl) (by kernel_rfl) (fun _ _ _ h => h) (Or.inl ⟨by rfl, fun w' hSw => ?_⟩) (by assumption) ?_
          · (try dsimp only at hSw); go_simp
          (try simp only [Act.put]); (try simp only [List.setIfInBounds_toArray]); (try simp only [List.set_cons_succ]); (try simp only [List.set_cons_zero])
          refine wpAnyH_done (by kernel_rfl) ?_ _
          refine NoPanic.normal ?_
          have HF := Hid.mk' (HBD.out.trans (Below.mono e1 HBD.out.size))
          clear e1
          go_wp2_with fail
          refine (HLV.out _).mono ?_
          rintro e wz ⟨rfl, hz⟩
          have HF2 := Hid.mk' (HF.out.trans (Below.mono hz HF.out.size))
          clear hz
          go_wp2
          go_ret
          exact ⟨rfl, HF2.out⟩
        exact AllReadyH.nil
      | false =>
        by_cases h13 : y = 13
        · subst h13
          go_wp2_with fail
          refine wp_region_noPanic ?_
          refine wp_region_held_drew (S := fun w' => Ext wr.drew w') (by kernel_rfl) hE (fun hHeld => ?_)
          refine wpAnyH_take (i := 0) (oi := { dst := some 24, op := Go.Op.load 26 (Go.Operand.tmp 7), type := 26, pos := _, after := #[], guard := none }) (v := .agg l.toArray) rfl (by kernel_rfl) (by kernel_rfl) (by kernel_rfl) (fun _ _ _ h => h) (Or.inl ⟨by rfl, fun w' hSw => ?_⟩) (by assumption) ?_
          · exact (exec_loadK _ _ _ _ _ _ _ _ (l0 _ hSw)).trans (congrArg (fun z : List Value => Result.ok (Next.value (.agg z.toArray)) w') (r0 _ hSw))
          (try simp only [Act.put]); (try simp only [List.setIfInBounds_toArray]); (try simp only [List.set_cons_succ]); (try simp only [List.set_cons_zero])
          refine wpAnyH_take (i := 1) (oi := { dst := some 25, op := Go.Op.move (Go.Operand.tmp 1), type := 9, pos := _, after := #[], guard := none }) (v := .string T1) rfl (by kernel_rfl) (by kernel_rfl) (by kernel_rfl) (fun _ _ _ h => h) (Or.inl ⟨by rfl, fun w' hSw => ?_⟩) (by assumption) ?_
          · (try dsimp only at hSw); go_simp
          (try simp only [Act.put]); (try simp only [List.setIfInBounds_toArray]); (try simp only [List.set_cons_succ]); (try simp only [List.set_cons_zero])
          refine wpAnyH_take (i := 2) (oi := { dst := some 26, op := Go.Op.move (Go.Operand.tmp 8), type := 3, pos := _, after := #[], guard := none }) (v := .int .i64 (n : Int)) rfl (by kernel_rfl) (by kernel_rfl) (by kernel_rfl) (fun _ _ _ h => h) (Or.inl ⟨by rfl, fun w' hSw => ?_⟩) (by assumption) ?_
          · (try dsimp only at hSw); go_simp
          (try simp only [Act.put]); (try simp only [List.setIfInBounds_toArray]); (try simp only [List.set_cons_succ]); (try simp only [List.set_cons_zero])
          refine wpAnyH_take (i := 3) (oi := { dst := some 27, op := Go.Op.index 9 (Go.Operand.tmp 25) (Go.Operand.tmp 26), type := 5, pos := _, after := #[{ on := 1, ground := Go.Ground.data }, { on := 2, ground := Go.Ground.data }], guard := none }) (v := .int .u8 13) rfl (by kernel_rfl) (by kernel_rfl) (by kernel_rfl) (fun _ _ _ h => h) (Or.inl ⟨by rfl, fun w' hSw => ?_⟩) (by assumption) ?_
          · (try dsimp only at hSw); go_simp; exact HY.out
          (try simp only [Act.put]); (try simp only [List.setIfInBounds_toArray]); (try simp only [List.set_cons_succ]); (try simp only [List.set_cons_zero])
          refine wpAnyH_ready (rs := [4]) (by kernel_rfl) (by simp) ?_
          refine AllReadyH.cons (o := { dst := some 28, op := Go.Op.call { callee := Go.Callee.value (Go.Operand.func 15), args := #[Go.Operand.tmp 24, Go.Operand.tmp 27], argTypes := #[26, 5] }, type := 4, pos := _, after := #[{ on := 0, ground := Go.Ground.data }, { on := 3, ground := Go.Ground.data }], guard := none }) rfl (fun K hK => ?_) ?_
          · skip
            go_simp
            refine (HS1.out _).mono ?_
            rintro e v1 ⟨rfl, hbv1⟩
            have e1 : Ext wr.drew v1 := Ext.trans hE hbv1
            go_wp2_with fail
            refine hK.out _ _ e1 (fun hHeld => ?_)
            clear hK K
            (try simp only [Act.put]); (try simp only [List.setIfInBounds_toArray]); (try simp only [List.set_cons_succ]); (try simp only [List.set_cons_zero])
            refine wpAnyH_take (i := 5) (oi := { dst := some 29, op := Go.Op.move (Go.Operand.tmp 28), type := 4, pos := _, after := #[{ on := 4, ground := Go.Ground.data }, { on := 4, ground := Go.Ground.chain }], guard := none }) (v := .bool false) rfl (by kernel_rfl) (by kernel_rfl) (by kernel_rfl) (fun _ _ _ h => h) (Or.inl ⟨by rfl, fun w' hSw => ?_⟩) (by assumption) ?_
            · (try dsimp only at hSw); go_simp
            (try simp only [Act.put]); (try simp only [List.setIfInBounds_toArray]); (try simp only [List.set_cons_succ]); (try simp only [List.set_cons_zero])
            refine wpAnyH_take (i := 6) (oi := { dst := some 30, op := Go.Op.move (Go.Operand.tmp 1), type := 9, pos := _, after := #[{ on := 5, ground := Go.Ground.guard }], guard := some (5, false) }) (v := .string T1) rfl (by kernel_rfl) (by kernel_rfl) (by kernel_rfl) (fun _ _ _ h => h) (Or.inl ⟨by rfl, fun w' hSw => ?_⟩) (by assumption) ?_
            · (try dsimp only at hSw); go_simp
            (try simp only [Act.put]); (try simp only [List.setIfInBounds_toArray]); (try simp only [List.set_cons_succ]); (try simp only [List.set_cons_zero])
            refine wpAnyH_take (i := 7) (oi := { dst := some 31, op := Go.Op.move (Go.Operand.tmp 8), type := 3, pos := _, after := #[{ on := 5, ground := Go.Ground.guard }], guard := some (5, false) }) (v := .int .i64 (n : Int)) rfl (by kernel_rfl) (by kernel_rfl) (by kernel_rfl) (fun _ _ _ h => h) (Or.inl ⟨by rfl, fun w' hSw => ?_⟩) (by assumption) ?_
            · (try dsimp only at hSw); go_simp
            (try simp only [Act.put]); (try simp only [List.setIfInBounds_toArray]); (try simp only [List.set_cons_succ]); (try simp only [List.set_cons_zero])
            refine wpAnyH_take (i := 8) (oi := { dst := some 32, op := Go.Op.index 9 (Go.Operand.tmp 30) (Go.Operand.tmp 31), type := 5, pos := _, after := #[{ on := 6, ground := Go.Ground.data }, { on := 7, ground := Go.Ground.data }, { on := 5, ground := Go.Ground.guard }], guard := some (5, false) }) (v := .int .u8 13) rfl (by kernel_rfl) (by kernel_rfl) (by kernel_rfl) (fun _ _ _ h => h) (Or.inl ⟨by rfl, fun w' hSw => ?_⟩) (by assumption) ?_
            · (try dsimp only at hSw); go_simp; exact HY.out
            (try simp only [Act.put]); (try simp only [List.setIfInBounds_toArray]); (try simp only [List.set_cons_succ]); (try simp only [List.set_cons_zero])
            refine wpAnyH_take (i := 9) (oi := { dst := some 33, op := Go.Op.binOp Go.BinOp.eql 5 (Go.Operand.tmp 32) (Go.Operand.const (Go.Value.int Go.IntKind.u8 13)) 5, type := 4, pos := _, after := #[{ on := 8, ground := Go.Ground.data }, { on := 5, ground := Go.Ground.guard }], guard := some (5, false) }) (v := .bool true) rfl (by kernel_rfl) (by kernel_rfl) (by kernel_rfl) (fun _ _ _ h => h) (Or.inl ⟨by rfl, fun w' hSw => ?_⟩) (by assumption) ?_
            · (try dsimp only at hSw); go_simp
            (try simp only [Act.put]); (try simp only [List.setIfInBounds_toArray]); (try simp only [List.set_cons_succ]); (try simp only [List.set_cons_zero])
            refine wpAnyH_take (i := 10) (oi := { dst := some 34, op := Go.Op.pick (Go.Operand.tmp 29) (Go.Operand.const (Go.Value.bool true)) (Go.Operand.tmp 33), type := 4, pos := _, after := #[{ on := 5, ground := Go.Ground.data }, { on := 9, ground := Go.Ground.data }], guard := none }) (v := .bool true) rfl (by kernel_rfl) (by kernel_rfl) (by kernel_rfl) (fun _ _ _ h => h) (Or.inl ⟨by rfl, fun w' hSw => ?_⟩) (by assumption) ?_
            · (try dsimp only at hSw); go_simp
            (try simp only [Act.put]); (try simp only [List.setIfInBounds_toArray]); (try simp only [List.set_cons_succ]); (try simp only [List.set_cons_zero])
            refine wpAnyH_take (i := 11) (oi := { dst := some 35, op := Go.Op.move (Go.Operand.tmp 34), type := 4, pos := _, after := #[{ on := 10, ground := Go.Ground.data }, { on := 5, ground := Go.Ground.chain }], guard := none }) (v := .bool true) rfl (by kernel_rfl) (by kernel_rfl) (by kernel_rfl) (fun _ _ _ h => h) (Or.inl ⟨by rfl, fun w' hSw => ?_⟩) (by assumption) ?_
            · (try dsimp only at hSw); go_simp
            (try simp only [Act.put]); (try simp only [List.setIfInBounds_toArray]); (try simp only [List.set_cons_succ]); (try simp only [List.set_cons_zero])
            refine wpAnyH_take (i := 12) (oi := { dst := some 36, op := Go.Op.move (Go.Operand.tmp 1), type := 9, pos := _, after := #[{ on := 11, ground := Go.Ground.guard }], guard := some (11, false) }) (v := undef) rfl (by kernel_rfl) (by kernel_rfl) (by kernel_rfl) (fun _ _ _ h => h) (Or.inr ⟨by rfl, rfl⟩) (by assumption) ?_
            (try simp only [Act.put]); (try simp only [List.setIfInBounds_toArray]); (try simp only [List.set_cons_succ]); (try simp only [List.set_cons_zero])
            refine wpAnyH_take (i := 13) (oi := { dst := some 37, op := Go.Op.move (Go.Operand.tmp 8), type := 3, pos := _, after := #[{ on := 11, ground := Go.Ground.guard }], guard := some (11, false) }) (v := undef) rfl (by kernel_rfl) (by kernel_rfl) (by kernel_rfl) (fun _ _ _ h => h) (Or.inr ⟨by rfl, rfl⟩) (by assumption) ?_
            (try simp only [Act.put]); (try simp only [List.setIfInBounds_toArray]); (try simp only [List.set_cons_succ]); (try simp only [List.set_cons_zero])
            refine wpAnyH_take (i := 14) (oi := { dst := some 38, op := Go.Op.index 9 (Go.Operand.tmp 36) (Go.Operand.tmp 37), type := 5, pos := _, after := #[{ on := 12, ground := Go.Ground.data }, { on := 13, ground := Go.Ground.data }, { on := 11, ground := Go.Ground.guard }], guard := some (11, false) }) (v := undef) rfl (by kernel_rfl) (by kernel_rfl) (by kernel_rfl) (fun _ _ _ h => h) (Or.inr ⟨by rfl, rfl⟩) (by assumption) ?_
            (try simp only [Act.put]); (try simp only [List.setIfInBounds_toArray]); (try simp only [List.set_cons_succ]); (try simp only [List.set_cons_zero])
            refine wpAnyH_take (i := 15) (oi := { dst := some 39, op := Go.Op.binOp Go.BinOp.eql 5 (Go.Operand.tmp 38) (Go.Operand.const (Go.Value.int Go.IntKind.u8 10)) 5, type := 4, pos := _, after := #[{ on := 14, ground := Go.Ground.data }, { on := 11, ground := Go.Ground.guard }], guard := some (11, false) }) (v := undef) rfl (by kernel_rfl) (by kernel_rfl) (by kernel_rfl) (fun _ _ _ h => h) (Or.inr ⟨by rfl, rfl⟩) (by assumption) ?_
            (try simp only [Act.put]); (try simp only [List.setIfInBounds_toArray]); (try simp only [List.set_cons_succ]); (try simp only [List.set_cons_zero])
            refine wpAnyH_take (i := 16) (oi := { dst := some 40, op := Go.Op.pick (Go.Operand.tmp 35) (Go.Operand.const (Go.Value.bool true)) (Go.Operand.tmp 39), type := 4, pos := _, after := #[{ on := 11, ground := Go.Ground.data }, { on := 15, ground := Go.Ground.data }], guard := none }) (v := .bool true) rfl (by kernel_rfl) (by kernel_rfl) (by kernel_rfl) (fun _ _ _ h => h) (Or.inl ⟨by rfl, fun w' hSw => ?_⟩) (by assumption) ?_
            · (try dsimp only at hSw); go_simp
            (try simp only [Act.put]); (try simp only [List.setIfInBounds_toArray]); (try simp only [List.set_cons_succ]); (try simp only [List.set_cons_zero])
            refine wpAnyH_done (by kernel_rfl) ?_ _
            refine NoPanic.normal ?_
            have HF := Hid.mk' (HBD.out.trans (Below.mono e1 HBD.out.size))
            clear e1
            go_wp2_with fail
            refine (HLV.out _).mono ?_
            rintro e wz ⟨rfl, hz⟩
            have HF2 := Hid.mk' (HF.out.trans (Below.mono hz HF.out.size))
            clear hz
            go_wp2
            go_ret
            exact ⟨rfl, HF2.out⟩
          exact AllReadyH.nil
        · by_cases h10 : y = 10
          · subst h10
            go_wp2_with fail
            refine wp_region_noPanic ?_
            refine wp_region_held_drew (S := fun w' => Ext wr.drew w') (by kernel_rfl) hE (fun hHeld => ?_)
            refine wpAnyH_take (i := 0) (oi := { dst := some 24, op := Go.Op.load 26 (Go.Operand.tmp 7), type := 26, pos := _, after := #[], guard := none }) (v := .agg l.toArray) rfl (by kernel_rfl) (by kernel_rfl) (by kernel_rfl) (fun _ _ _ h => h) (Or.inl ⟨by rfl, fun w' hSw => ?_⟩) (by assumption) ?_
            · exact (exec_loadK _ _ _ _ _ _ _ _ (l0 _ hSw)).trans (congrArg (fun z : List Value => Result.ok (Next.value (.agg z.toArray)) w') (r0 _ hSw))
            (try simp only [Act.put]); (try simp only [List.setIfInBounds_toArray]); (try simp only [List.set_cons_succ]); (try simp only [List.set_cons_zero])
            refine wpAnyH_take (i := 1) (oi := { dst := some 25, op := Go.Op.move (Go.Operand.tmp 1), type := 9, pos := _, after := #[], guard := none }) (v := .string T1) rfl (by kernel_rfl) (by kernel_rfl) (by kernel_rfl) (fun _ _ _ h => h) (Or.inl ⟨by rfl, fun w' hSw => ?_⟩) (by assumption) ?_
            · (try dsimp only at hSw); go_simp
            (try simp only [Act.put]); (try simp only [List.setIfInBounds_toArray]); (try simp only [List.set_cons_succ]); (try simp only [List.set_cons_zero])
            refine wpAnyH_take (i := 2) (oi := { dst := some 26, op := Go.Op.move (Go.Operand.tmp 8), type := 3, pos := _, after := #[], guard := none }) (v := .int .i64 (n : Int)) rfl (by kernel_rfl) (by kernel_rfl) (by kernel_rfl) (fun _ _ _ h => h) (Or.inl ⟨by rfl, fun w' hSw => ?_⟩) (by assumption) ?_
            · (try dsimp only at hSw); go_simp
            (try simp only [Act.put]); (try simp only [List.setIfInBounds_toArray]); (try simp only [List.set_cons_succ]); (try simp only [List.set_cons_zero])
            refine wpAnyH_take (i := 3) (oi := { dst := some 27, op := Go.Op.index 9 (Go.Operand.tmp 25) (Go.Operand.tmp 26), type := 5, pos := _, after := #[{ on := 1, ground := Go.Ground.data }, { on := 2, ground := Go.Ground.data }], guard := none }) (v := .int .u8 10) rfl (by kernel_rfl) (by kernel_rfl) (by kernel_rfl) (fun _ _ _ h => h) (Or.inl ⟨by rfl, fun w' hSw => ?_⟩) (by assumption) ?_
            · (try dsimp only at hSw); go_simp; exact HY.out
            (try simp only [Act.put]); (try simp only [List.setIfInBounds_toArray]); (try simp only [List.set_cons_succ]); (try simp only [List.set_cons_zero])
            refine wpAnyH_ready (rs := [4]) (by kernel_rfl) (by simp) ?_
            refine AllReadyH.cons (o := { dst := some 28, op := Go.Op.call { callee := Go.Callee.value (Go.Operand.func 15), args := #[Go.Operand.tmp 24, Go.Operand.tmp 27], argTypes := #[26, 5] }, type := 4, pos := _, after := #[{ on := 0, ground := Go.Ground.data }, { on := 3, ground := Go.Ground.data }], guard := none }) rfl (fun K hK => ?_) ?_
            · skip
              go_simp
              refine (HS1.out _).mono ?_
              rintro e v1 ⟨rfl, hbv1⟩
              have e1 : Ext wr.drew v1 := Ext.trans hE hbv1
              go_wp2_with fail
              refine hK.out _ _ e1 (fun hHeld => ?_)
              clear hK K
              (try simp only [Act.put]); (try simp only [List.setIfInBounds_toArray]); (try simp only [List.set_cons_succ]); (try simp only [List.set_cons_zero])
              refine wpAnyH_take (i := 5) (oi := { dst := some 29, op := Go.Op.move (Go.Operand.tmp 28), type := 4, pos := _, after := #[{ on := 4, ground := Go.Ground.data }, { on := 4, ground := Go.Ground.chain }], guard := none }) (v := .bool false) rfl (by kernel_rfl) (by kernel_rfl) (by kernel_rfl) (fun _ _ _ h => h) (Or.inl ⟨by rfl, fun w' hSw => ?_⟩) (by assumption) ?_
              · (try dsimp only at hSw); go_simp
              (try simp only [Act.put]); (try simp only [List.setIfInBounds_toArray]); (try simp only [List.set_cons_succ]); (try simp only [List.set_cons_zero])
              refine wpAnyH_take (i := 6) (oi := { dst := some 30, op := Go.Op.move (Go.Operand.tmp 1), type := 9, pos := _, after := #[{ on := 5, ground := Go.Ground.guard }], guard := some (5, false) }) (v := .string T1) rfl (by kernel_rfl) (by kernel_rfl) (by kernel_rfl) (fun _ _ _ h => h) (Or.inl ⟨by rfl, fun w' hSw => ?_⟩) (by assumption) ?_
              · (try dsimp only at hSw); go_simp
              (try simp only [Act.put]); (try simp only [List.setIfInBounds_toArray]); (try simp only [List.set_cons_succ]); (try simp only [List.set_cons_zero])
              refine wpAnyH_take (i := 7) (oi := { dst := some 31, op := Go.Op.move (Go.Operand.tmp 8), type := 3, pos := _, after := #[{ on := 5, ground := Go.Ground.guard }], guard := some (5, false) }) (v := .int .i64 (n : Int)) rfl (by kernel_rfl) (by kernel_rfl) (by kernel_rfl) (fun _ _ _ h => h) (Or.inl ⟨by rfl, fun w' hSw => ?_⟩) (by assumption) ?_
              · (try dsimp only at hSw); go_simp
              (try simp only [Act.put]); (try simp only [List.setIfInBounds_toArray]); (try simp only [List.set_cons_succ]); (try simp only [List.set_cons_zero])
              refine wpAnyH_take (i := 8) (oi := { dst := some 32, op := Go.Op.index 9 (Go.Operand.tmp 30) (Go.Operand.tmp 31), type := 5, pos := _, after := #[{ on := 6, ground := Go.Ground.data }, { on := 7, ground := Go.Ground.data }, { on := 5, ground := Go.Ground.guard }], guard := some (5, false) }) (v := .int .u8 10) rfl (by kernel_rfl) (by kernel_rfl) (by kernel_rfl) (fun _ _ _ h => h) (Or.inl ⟨by rfl, fun w' hSw => ?_⟩) (by assumption) ?_
              · (try dsimp only at hSw); go_simp; exact HY.out
              (try simp only [Act.put]); (try simp only [List.setIfInBounds_toArray]); (try simp only [List.set_cons_succ]); (try simp only [List.set_cons_zero])
              refine wpAnyH_take (i := 9) (oi := { dst := some 33, op := Go.Op.binOp Go.BinOp.eql 5 (Go.Operand.tmp 32) (Go.Operand.const (Go.Value.int Go.IntKind.u8 13)) 5, type := 4, pos := _, after := #[{ on := 8, ground := Go.Ground.data }, { on := 5, ground := Go.Ground.guard }], guard := some (5, false) }) (v := .bool false) rfl (by kernel_rfl) (by kernel_rfl) (by kernel_rfl) (fun _ _ _ h => h) (Or.inl ⟨by rfl, fun w' hSw => ?_⟩) (by assumption) ?_
              · (try dsimp only at hSw); go_simp
              (try simp only [Act.put]); (try simp only [List.setIfInBounds_toArray]); (try simp only [List.set_cons_succ]); (try simp only [List.set_cons_zero])
              refine wpAnyH_take (i := 10) (oi := { dst := some 34, op := Go.Op.pick (Go.Operand.tmp 29) (Go.Operand.const (Go.Value.bool true)) (Go.Operand.tmp 33), type := 4, pos := _, after := #[{ on := 5, ground := Go.Ground.data }, { on := 9, ground := Go.Ground.data }], guard := none }) (v := .bool false) rfl (by kernel_rfl) (by kernel_rfl) (by kernel_rfl) (fun _ _ _ h => h) (Or.inl ⟨by rfl, fun w' hSw => ?_⟩) (by assumption) ?_
              · (try dsimp only at hSw); go_simp
              (try simp only [Act.put]); (try simp only [List.setIfInBounds_toArray]); (try simp only [List.set_cons_succ]); (try simp only [List.set_cons_zero])
              refine wpAnyH_take (i := 11) (oi := { dst := some 35, op := Go.Op.move (Go.Operand.tmp 34), type := 4, pos := _, after := #[{ on := 10, ground := Go.Ground.data }, { on := 5, ground := Go.Ground.chain }], guard := none }) (v := .bool false) rfl (by kernel_rfl) (by kernel_rfl) (by kernel_rfl) (fun _ _ _ h => h) (Or.inl ⟨by rfl, fun w' hSw => ?_⟩) (by assumption) ?_
              · (try dsimp only at hSw); go_simp
              (try simp only [Act.put]); (try simp only [List.setIfInBounds_toArray]); (try simp only [List.set_cons_succ]); (try simp only [List.set_cons_zero])
              refine wpAnyH_take (i := 12) (oi := { dst := some 36, op := Go.Op.move (Go.Operand.tmp 1), type := 9, pos := _, after := #[{ on := 11, ground := Go.Ground.guard }], guard := some (11, false) }) (v := .string T1) rfl (by kernel_rfl) (by kernel_rfl) (by kernel_rfl) (fun _ _ _ h => h) (Or.inl ⟨by rfl, fun w' hSw => ?_⟩) (by assumption) ?_
              · (try dsimp only at hSw); go_simp
              (try simp only [Act.put]); (try simp only [List.setIfInBounds_toArray]); (try simp only [List.set_cons_succ]); (try simp only [List.set_cons_zero])
              refine wpAnyH_take (i := 13) (oi := { dst := some 37, op := Go.Op.move (Go.Operand.tmp 8), type := 3, pos := _, after := #[{ on := 11, ground := Go.Ground.guard }], guard := some (11, false) }) (v := .int .i64 (n : Int)) rfl (by kernel_rfl) (by kernel_rfl) (by kernel_rfl) (fun _ _ _ h => h) (Or.inl ⟨by rfl, fun w' hSw => ?_⟩) (by assumption) ?_
              · (try dsimp only at hSw); go_simp
              (try simp only [Act.put]); (try simp only [List.setIfInBounds_toArray]); (try simp only [List.set_cons_succ]); (try simp only [List.set_cons_zero])
              refine wpAnyH_take (i := 14) (oi := { dst := some 38, op := Go.Op.index 9 (Go.Operand.tmp 36) (Go.Operand.tmp 37), type := 5, pos := _, after := #[{ on := 12, ground := Go.Ground.data }, { on := 13, ground := Go.Ground.data }, { on := 11, ground := Go.Ground.guard }], guard := some (11, false) }) (v := .int .u8 10) rfl (by kernel_rfl) (by kernel_rfl) (by kernel_rfl) (fun _ _ _ h => h) (Or.inl ⟨by rfl, fun w' hSw => ?_⟩) (by assumption) ?_
              · (try dsimp only at hSw); go_simp; exact HY.out
              (try simp only [Act.put]); (try simp only [List.setIfInBounds_toArray]); (try simp only [List.set_cons_succ]); (try simp only [List.set_cons_zero])
              refine wpAnyH_take (i := 15) (oi := { dst := some 39, op := Go.Op.binOp Go.BinOp.eql 5 (Go.Operand.tmp 38) (Go.Operand.const (Go.Value.int Go.IntKind.u8 10)) 5, type := 4, pos := _, after := #[{ on := 14, ground := Go.Ground.data }, { on := 11, ground := Go.Ground.guard }], guard := some (11, false) }) (v := .bool true) rfl (by kernel_rfl) (by kernel_rfl) (by kernel_rfl) (fun _ _ _ h => h) (Or.inl ⟨by rfl, fun w' hSw => ?_⟩) (by assumption) ?_
              · (try dsimp only at hSw); go_simp
              (try simp only [Act.put]); (try simp only [List.setIfInBounds_toArray]); (try simp only [List.set_cons_succ]); (try simp only [List.set_cons_zero])
              refine wpAnyH_take (i := 16) (oi := { dst := some 40, op := Go.Op.pick (Go.Operand.tmp 35) (Go.Operand.const (Go.Value.bool true)) (Go.Operand.tmp 39), type := 4, pos := _, after := #[{ on := 11, ground := Go.Ground.data }, { on := 15, ground := Go.Ground.data }], guard := none }) (v := .bool true) rfl (by kernel_rfl) (by kernel_rfl) (by kernel_rfl) (fun _ _ _ h => h) (Or.inl ⟨by rfl, fun w' hSw => ?_⟩) (by assumption) ?_
              · (try dsimp only at hSw); go_simp
              (try simp only [Act.put]); (try simp only [List.setIfInBounds_toArray]); (try simp only [List.set_cons_succ]); (try simp only [List.set_cons_zero])
              refine wpAnyH_done (by kernel_rfl) ?_ _
              refine NoPanic.normal ?_
              have HF := Hid.mk' (HBD.out.trans (Below.mono e1 HBD.out.size))
              clear e1
              go_wp2_with fail
              refine (HLV.out _).mono ?_
              rintro e wz ⟨rfl, hz⟩
              have HF2 := Hid.mk' (HF.out.trans (Below.mono hz HF.out.size))
              clear hz
              go_wp2
              go_ret
              exact ⟨rfl, HF2.out⟩
            exact AllReadyH.nil
          · have hy13 : (y == 13) = false := beq_false_of_ne h13
            have hy10 : (y == 10) = false := beq_false_of_ne h10
            have HTM2 := Hid.mk' (HTM1.out (by simp [h13, h10]))
            go_wp2_with fail
            refine wp_region_noPanic ?_
            refine wp_region_held_drew (S := fun w' => Ext wr.drew w') (by kernel_rfl) hE (fun hHeld => ?_)
            refine wpAnyH_take (i := 0) (oi := { dst := some 24, op := Go.Op.load 26 (Go.Operand.tmp 7), type := 26, pos := _, after := #[], guard := none }) (v := .agg l.toArray) rfl (by kernel_rfl) (by kernel_rfl) (by kernel_rfl) (fun _ _ _ h => h) (Or.inl ⟨by rfl, fun w' hSw => ?_⟩) (by assumption) ?_
            · exact (exec_loadK _ _ _ _ _ _ _ _ (l0 _ hSw)).trans (congrArg (fun z : List Value => Result.ok (Next.value (.agg z.toArray)) w') (r0 _ hSw))
            (try simp only [Act.put]); (try simp only [List.setIfInBounds_toArray]); (try simp only [List.set_cons_succ]); (try simp only [List.set_cons_zero])
            refine wpAnyH_take (i := 1) (oi := { dst := some 25, op := Go.Op.move (Go.Operand.tmp 1), type := 9, pos := _, after := #[], guard := none }) (v := .string T1) rfl (by kernel_rfl) (by kernel_rfl) (by kernel_rfl) (fun _ _ _ h => h) (Or.inl ⟨by rfl, fun w' hSw => ?_⟩) (by assumption) ?_
            · (try dsimp only at hSw); go_simp
            (try simp only [Act.put]); (try simp only [List.setIfInBounds_toArray]); (try simp only [List.set_cons_succ]); (try simp only [List.set_cons_zero])
            refine wpAnyH_take (i := 2) (oi := { dst := some 26, op := Go.Op.move (Go.Operand.tmp 8), type := 3, pos := _, after := #[], guard := none }) (v := .int .i64 (n : Int)) rfl (by kernel_rfl) (by kernel_rfl) (by kernel_rfl) (fun _ _ _ h => h) (Or.inl ⟨by rfl, fun w' hSw => ?_⟩) (by assumption) ?_
            · (try dsimp only at hSw); go_simp
            (try simp only [Act.put]); (try simp only [List.setIfInBounds_toArray]); (try simp only [List.set_cons_succ]); (try simp only [List.set_cons_zero])
            refine wpAnyH_take (i := 3) (oi := { dst := some 27, op := Go.Op.index 9 (Go.Operand.tmp 25) (Go.Operand.tmp 26), type := 5, pos := _, after := #[{ on := 1, ground := Go.Ground.data }, { on := 2, ground := Go.Ground.data }], guard := none }) (v := .int .u8 y) rfl (by kernel_rfl) (by kernel_rfl) (by kernel_rfl) (fun _ _ _ h => h) (Or.inl ⟨by rfl, fun w' hSw => ?_⟩) (by assumption) ?_
            · (try dsimp only at hSw); go_simp; exact HY.out
            (try simp only [Act.put]); (try simp only [List.setIfInBounds_toArray]); (try simp only [List.set_cons_succ]); (try simp only [List.set_cons_zero])
            refine wpAnyH_ready (rs := [4]) (by kernel_rfl) (by simp) ?_
            refine AllReadyH.cons (o := { dst := some 28, op := Go.Op.call { callee := Go.Callee.value (Go.Operand.func 15), args := #[Go.Operand.tmp 24, Go.Operand.tmp 27], argTypes := #[26, 5] }, type := 4, pos := _, after := #[{ on := 0, ground := Go.Ground.data }, { on := 3, ground := Go.Ground.data }], guard := none }) rfl (fun K hK => ?_) ?_
            · skip
              go_simp
              refine (HS1.out _).mono ?_
              rintro e v1 ⟨rfl, hbv1⟩
              have e1 : Ext wr.drew v1 := Ext.trans hE hbv1
              go_wp2_with fail
              refine hK.out _ _ e1 (fun hHeld => ?_)
              clear hK K
              (try simp only [Act.put]); (try simp only [List.setIfInBounds_toArray]); (try simp only [List.set_cons_succ]); (try simp only [List.set_cons_zero])
              refine wpAnyH_take (i := 5) (oi := { dst := some 29, op := Go.Op.move (Go.Operand.tmp 28), type := 4, pos := _, after := #[{ on := 4, ground := Go.Ground.data }, { on := 4, ground := Go.Ground.chain }], guard := none }) (v := .bool false) rfl (by kernel_rfl) (by kernel_rfl) (by kernel_rfl) (fun _ _ _ h => h) (Or.inl ⟨by rfl, fun w' hSw => ?_⟩) (by assumption) ?_
              · (try dsimp only at hSw); go_simp
              (try simp only [Act.put]); (try simp only [List.setIfInBounds_toArray]); (try simp only [List.set_cons_succ]); (try simp only [List.set_cons_zero])
              refine wpAnyH_take (i := 6) (oi := { dst := some 30, op := Go.Op.move (Go.Operand.tmp 1), type := 9, pos := _, after := #[{ on := 5, ground := Go.Ground.guard }], guard := some (5, false) }) (v := .string T1) rfl (by kernel_rfl) (by kernel_rfl) (by kernel_rfl) (fun _ _ _ h => h) (Or.inl ⟨by rfl, fun w' hSw => ?_⟩) (by assumption) ?_
              · (try dsimp only at hSw); go_simp
              (try simp only [Act.put]); (try simp only [List.setIfInBounds_toArray]); (try simp only [List.set_cons_succ]); (try simp only [List.set_cons_zero])
              refine wpAnyH_take (i := 7) (oi := { dst := some 31, op := Go.Op.move (Go.Operand.tmp 8), type := 3, pos := _, after := #[{ on := 5, ground := Go.Ground.guard }], guard := some (5, false) }) (v := .int .i64 (n : Int)) rfl (by kernel_rfl) (by kernel_rfl) (by kernel_rfl) (fun _ _ _ h => h) (Or.inl ⟨by rfl, fun w' hSw => ?_⟩) (by assumption) ?_
              · (try dsimp only at hSw); go_simp
              (try simp only [Act.put]); (try simp only [List.setIfInBounds_toArray]); (try simp only [List.set_cons_succ]); (try simp only [List.set_cons_zero])
              refine wpAnyH_take (i := 8) (oi := { dst := some 32, op := Go.Op.index 9 (Go.Operand.tmp 30) (Go.Operand.tmp 31), type := 5, pos := _, after := #[{ on := 6, ground := Go.Ground.data }, { on := 7, ground := Go.Ground.data }, { on := 5, ground := Go.Ground.guard }], guard := some (5, false) }) (v := .int .u8 y) rfl (by kernel_rfl) (by kernel_rfl) (by kernel_rfl) (fun _ _ _ h => h) (Or.inl ⟨by rfl, fun w' hSw => ?_⟩) (by assumption) ?_
              · (try dsimp only at hSw); go_simp; exact HY.out
              (try simp only [Act.put]); (try simp only [List.setIfInBounds_toArray]); (try simp only [List.set_cons_succ]); (try simp only [List.set_cons_zero])
              refine wpAnyH_take (i := 9) (oi := { dst := some 33, op := Go.Op.binOp Go.BinOp.eql 5 (Go.Operand.tmp 32) (Go.Operand.const (Go.Value.int Go.IntKind.u8 13)) 5, type := 4, pos := _, after := #[{ on := 8, ground := Go.Ground.data }, { on := 5, ground := Go.Ground.guard }], guard := some (5, false) }) (v := .bool false) rfl (by kernel_rfl) (by kernel_rfl) (by kernel_rfl) (fun _ _ _ h => h) (Or.inl ⟨by rfl, fun w' hSw => ?_⟩) (by assumption) ?_
              · (try dsimp only at hSw); go_simp
              (try simp only [Act.put]); (try simp only [List.setIfInBounds_toArray]); (try simp only [List.set_cons_succ]); (try simp only [List.set_cons_zero])
              refine wpAnyH_take (i := 10) (oi := { dst := some 34, op := Go.Op.pick (Go.Operand.tmp 29) (Go.Operand.const (Go.Value.bool true)) (Go.Operand.tmp 33), type := 4, pos := _, after := #[{ on := 5, ground := Go.Ground.data }, { on := 9, ground := Go.Ground.data }], guard := none }) (v := .bool false) rfl (by kernel_rfl) (by kernel_rfl) (by kernel_rfl) (fun _ _ _ h => h) (Or.inl ⟨by rfl, fun w' hSw => ?_⟩) (by assumption) ?_
              · (try dsimp only at hSw); go_simp
              (try simp only [Act.put]); (try simp only [List.setIfInBounds_toArray]); (try simp only [List.set_cons_succ]); (try simp only [List.set_cons_zero])
              refine wpAnyH_take (i := 11) (oi := { dst := some 35, op := Go.Op.move (Go.Operand.tmp 34), type := 4, pos := _, after := #[{ on := 10, ground := Go.Ground.data }, { on := 5, ground := Go.Ground.chain }], guard := none }) (v := .bool false) rfl (by kernel_rfl) (by kernel_rfl) (by kernel_rfl) (fun _ _ _ h => h) (Or.inl ⟨by rfl, fun w' hSw => ?_⟩) (by assumption) ?_
              · (try dsimp only at hSw); go_simp
              (try simp only [Act.put]); (try simp only [List.setIfInBounds_toArray]); (try simp only [List.set_cons_succ]); (try simp only [List.set_cons_zero])
              refine wpAnyH_take (i := 12) (oi := { dst := some 36, op := Go.Op.move (Go.Operand.tmp 1), type := 9, pos := _, after := #[{ on := 11, ground := Go.Ground.guard }], guard := some (11, false) }) (v := .string T1) rfl (by kernel_rfl) (by kernel_rfl) (by kernel_rfl) (fun _ _ _ h => h) (Or.inl ⟨by rfl, fun w' hSw => ?_⟩) (by assumption) ?_
              · (try dsimp only at hSw); go_simp
              (try simp only [Act.put]); (try simp only [List.setIfInBounds_toArray]); (try simp only [List.set_cons_succ]); (try simp only [List.set_cons_zero])
              refine wpAnyH_take (i := 13) (oi := { dst := some 37, op := Go.Op.move (Go.Operand.tmp 8), type := 3, pos := _, after := #[{ on := 11, ground := Go.Ground.guard }], guard := some (11, false) }) (v := .int .i64 (n : Int)) rfl (by kernel_rfl) (by kernel_rfl) (by kernel_rfl) (fun _ _ _ h => h) (Or.inl ⟨by rfl, fun w' hSw => ?_⟩) (by assumption) ?_
              · (try dsimp only at hSw); go_simp
              (try simp only [Act.put]); (try simp only [List.setIfInBounds_toArray]); (try simp only [List.set_cons_succ]); (try simp only [List.set_cons_zero])
              refine wpAnyH_take (i := 14) (oi := { dst := some 38, op := Go.Op.index 9 (Go.Operand.tmp 36) (Go.Operand.tmp 37), type := 5, pos := _, after := #[{ on := 12, ground := Go.Ground.data }, { on := 13, ground := Go.Ground.data }, { on := 11, ground := Go.Ground.guard }], guard := some (11, false) }) (v := .int .u8 y) rfl (by kernel_rfl) (by kernel_rfl) (by kernel_rfl) (fun _ _ _ h => h) (Or.inl ⟨by rfl, fun w' hSw => ?_⟩) (by assumption) ?_
              · (try dsimp only at hSw); go_simp; exact HY.out
              (try simp only [Act.put]); (try simp only [List.setIfInBounds_toArray]); (try simp only [List.set_cons_succ]); (try simp only [List.set_cons_zero])
              refine wpAnyH_take (i := 15) (oi := { dst := some 39, op := Go.Op.binOp Go.BinOp.eql 5 (Go.Operand.tmp 38) (Go.Operand.const (Go.Value.int Go.IntKind.u8 10)) 5, type := 4, pos := _, after := #[{ on := 14, ground := Go.Ground.data }, { on := 11, ground := Go.Ground.guard }], guard := some (11, false) }) (v := .bool false) rfl (by kernel_rfl) (by kernel_rfl) (by kernel_rfl) (fun _ _ _ h => h) (Or.inl ⟨by rfl, fun w' hSw => ?_⟩) (by assumption) ?_
              · (try dsimp only at hSw); go_simp
              (try simp only [Act.put]); (try simp only [List.setIfInBounds_toArray]); (try simp only [List.set_cons_succ]); (try simp only [List.set_cons_zero])
              refine wpAnyH_take (i := 16) (oi := { dst := some 40, op := Go.Op.pick (Go.Operand.tmp 35) (Go.Operand.const (Go.Value.bool true)) (Go.Operand.tmp 39), type := 4, pos := _, after := #[{ on := 11, ground := Go.Ground.data }, { on := 15, ground := Go.Ground.data }], guard := none }) (v := .bool false) rfl (by kernel_rfl) (by kernel_rfl) (by kernel_rfl) (fun _ _ _ h => h) (Or.inl ⟨by rfl, fun w' hSw => ?_⟩) (by assumption) ?_
              · (try dsimp only at hSw); go_simp
              (try simp only [Act.put]); (try simp only [List.setIfInBounds_toArray]); (try simp only [List.set_cons_succ]); (try simp only [List.set_cons_zero])
              refine wpAnyH_done (by kernel_rfl) ?_ _
              refine NoPanic.normal ?_
              have HF := Hid.mk' (HBD.out.trans (Below.mono e1 HBD.out.size))
              have BX5 := Hid.mk' (BXD.out.later e1)
              have BK5 := Hid.mk' (BKD.out.later e1)
              clear e1
              go_wp2
              go_roundg (T.length - (n + 1))
              case measure => have := HG.out; omega
              case rel => exact ⟨n + 1, by omega, Nat.le_refl _, by go_num, HTM2, BX5, BK5, HF⟩
            exact AllReadyH.nil
    · obtain rfl : n = T.length := by omega
      rw [HTA.out] at HO
      have HT0 := Hid.mk' HO.out
      clear HO HTM HGT HSP HTA
      go_wp2_with fail
      refine (HLV.out _).mono ?_
      rintro e w5 ⟨rfl, h5⟩
      have BX5 := Hid.mk' (BX.out.later h5)
      have BK5 := Hid.mk' (BK.out.later h5)
      have HB5 := Hid.mk' (HB.out.trans (Below.mono h5 HB.out.size))
      clear h5 BX BK HB
      have e0 := BX5.out.cell (j := 0) rfl
      have g0 : (B.length : Int) + (T.length : Int) ≤ 9223372036854775807 := by omega
      by_cases hbig : 1024 ≤ B.length + T.length
      · have g1 : (1024 : Int) ≤ (B.length : Int) + (T.length : Int) := by omega
        clear hbig HC1 HC2 HRP
        go_wp2_with fail
        refine (HLV.out _).mono ?_
        rintro e w6 ⟨rfl, h6⟩
        have HF := Hid.mk' (HB5.out.trans (Below.mono h6 HB5.out.size))
        clear h6
        go_wp2
        go_ret
        exact ⟨rfl, HF.out⟩
      · have g1 : ¬ (1024 : Int) ≤ (B.length : Int) + (T.length : Int) := by omega
        have HCA := Hid.mk' (HC1.out (by omega) HT0.out)
        have HCB := Hid.mk' (HC2.out (by omega) HT0.out)
        have HRP1 := Hid.mk' (HRP.out (by omega))
        have g2 : T.length + 1 ≤ 9223372036854775807 := by omega
        have g3 : ¬ 9223372036854775807 < T.length + 1 := by omega
        have g4 : T.length + T.length ≤ 9223372036854775807 := by omega
        have g5 : ¬ 9223372036854775807 < T.length + T.length := by omega
        have HSE : Hid ((Tryd.prog.info? 23).map (·.size) = some ([Value.string X, Value.bool false]).length) := sizeE
        clear HC1 HC2 HRP HT0 hbig
        have z5 : w2.heap.size < w5.heap.size := BK5.out.lt
        have z0 : w.heap.size < w5.heap.size := BX5.out.lt
        cases all with
        | true =>
          go_wp2_with ((first | (with_reducible refine wpList_load_box 23 23 [.string X, .bool false] w.heap.size _ Tryd.underlying23 rfl HSE.out BX5.out rfl _ rfl rfl ?_) | (with_reducible refine wpList_load_box 26 26 l w2.heap.size _ Tryd.underlying26 rfl HSK.out BK5.out rfl _ rfl rfl ?_) | (refine wpList_build0 m 30 (HM.out _) rfl rfl ?_)))
          refine (HCA.out _).mono ?_
          rintro e w6 ⟨al1, cl1, n1, x1, hn1, rfl, hw6⟩
          have zw6 := hw6.size
          have be_w6 := Hid.mk' (BX5.out.later hw6)
          have bk_w6 := Hid.mk' (BK5.out.later hw6)
          have HB_w6 := Hid.mk' (HB5.out.trans (Below.mono hw6 HB5.out.size))
          clear BX5 BK5 HB5
          clear hw6
          go_wp2_with (first | (refine wpList_alloc [.string ⟨#[]⟩, .bool false] 23 zeroE rfl rfl ?_))
          intro w7 mw7
          have zw7 := mw7.lt
          have Yw7 := Hid.mk' mw7.box
          have HSw7 : Hid (∀ W', Stored w7 W' w6.heap.size 23 ([.string { data := #[] }, .bool false]) → Below w6.heap.size w6 W') := fun W' s' => s'.below _ _ (Nat.le_refl _) (mw7.below _ _ (Nat.le_refl _) (Below.refl _ _))
          clear mw7
          go_wp2_with (refine wpList_store_box 23 23 [.string ⟨#[]⟩, .bool false] ([.string { data := #[] }, .bool false]) w6.heap.size sizeE (edCells_one _ _) Yw7.out rfl rfl _ _ rfl rfl rfl ?_)
          intro w8 sw8
          have zw8 : w6.heap.size < w8.heap.size := sw8.box.lt
          have Hw8 := HSw7.out w8 sw8
          have Xw8 := sw8.box
          have be_w8 := Hid.mk' (be_w6.out.later Hw8)
          have bk_w8 := Hid.mk' (bk_w6.out.later Hw8)
          have HB_w8 := Hid.mk' (HB_w6.out.trans (Below.mono Hw8 HB_w6.out.size))
          clear be_w6 bk_w6 HB_w6
          have bx_w8 := Hid.mk' Xw8
          clear sw8 Hw8 Xw8 Yw7 HSw7 zw7
          obtain rfl : n1 = 0 := hn1.out
          have d0 := bx_w8.out.cell (j := 0) rfl
          have d1 := bx_w8.out.cell (j := 1) rfl
          go_wp2
          go_ret
          exact ⟨rfl, HB_w8.out⟩
        | false =>
          go_wp2_with fail
          have hE : Ext w5.drew w5.drew := Ext.refl _
          have l0 : ∀ w', Ext w5.drew w' → Lies w' (.pointer (some ⟨w2.heap.size, 0, none⟩)) 38 := fun w' h => (BK5.out.drew.later h).lies0 HKL.out
          have r0 : ∀ w', Ext w5.drew w' → Q.rowAt w' (.pointer (some ⟨w2.heap.size, 0, none⟩)) 38 = l := fun w' h => (BK5.out.drew.later h).row0 HKL.out
          have lc0 : ∀ w', Ext w5.drew w' → w'.cell? ⟨w.heap.size, 0, none⟩ = some (.string X) := fun w' h => (BX5.out.drew.later h).cell (j := 0) rfl
          have lc1 : ∀ w', Ext w5.drew w' → w'.cell? ⟨w.heap.size, 1, none⟩ = some (.bool false) := fun w' h => (BX5.out.drew.later h).cell (j := 1) rfl
          have BX5D := Hid.mk' BX5.out.drew
          have HB5D := Hid.mk' HB5.out.drew
          clear BX5 BK5 HB5
          refine wp_region_noPanic ?_
          refine wp_region_held_drew (S := fun w' => Ext w5.drew w') (by kernel_rfl) hE (fun hHeld => ?_)
          refine wpAnyH_take (i := 0) (oi := { dst := some 80, op := Go.Op.load 23 (Go.Operand.tmp 3), type := 23, pos := _, after := #[], guard := none }) (v := .agg #[.string X, .bool false]) rfl (by kernel_rfl) (by kernel_rfl) (by kernel_rfl) (fun _ _ _ h => h) (Or.inl ⟨by rfl, fun w' hSw => ?_⟩) (by assumption) ?_
          · have c0 := lc0 _ hSw; have c1 := lc1 _ hSw; go_simp
          (try simp only [Act.put]); (try simp only [List.setIfInBounds_toArray]); (try simp only [List.set_cons_succ]); (try simp only [List.set_cons_zero])
          refine wpAnyH_take (i := 1) (oi := { dst := some 81, op := Go.Op.load 26 (Go.Operand.tmp 7), type := 26, pos := _, after := #[], guard := none }) (v := .agg l.toArray) rfl (by kernel_rfl) (by kernel_rfl) (by kernel_rfl) (fun _ _ _ h => h) (Or.inl ⟨by rfl, fun w' hSw => ?_⟩) (by assumption) ?_
          · exact (exec_loadK _ _ _ _ _ _ _ _ (l0 _ hSw)).trans (congrArg (fun z : List Value => Result.ok (Next.value (.agg z.toArray)) w') (r0 _ hSw))
          (try simp only [Act.put]); (try simp only [List.setIfInBounds_toArray]); (try simp only [List.set_cons_succ]); (try simp only [List.set_cons_zero])
          refine wpAnyH_take (i := 2) (oi := { dst := some 82, op := Go.Op.build 30 #[], type := 30, pos := _, after := #[], guard := none }) (v := .agg m.toArray) rfl (by kernel_rfl) (by kernel_rfl) (by kernel_rfl) (fun _ _ _ h => h) (Or.inl ⟨by rfl, fun w' hSw => ?_⟩) (by assumption) ?_
          · unfold execOp; simp only [List.map_toArray, List.map_nil, HM.out, Sem.run_bind, Sem.run_pure, Result.andThen_ok]
          (try simp only [Act.put]); (try simp only [List.setIfInBounds_toArray]); (try simp only [List.set_cons_succ]); (try simp only [List.set_cons_zero])
          refine wpAnyH_take (i := 3) (oi := { dst := some 83, op := Go.Op.move (Go.Operand.tmp 1), type := 9, pos := _, after := #[], guard := none }) (v := .string T1) rfl (by kernel_rfl) (by kernel_rfl) (by kernel_rfl) (fun _ _ _ h => h) (Or.inl ⟨by rfl, fun w' hSw => ?_⟩) (by assumption) ?_
          · (try dsimp only at hSw); go_simp
          (try simp only [Act.put]); (try simp only [List.setIfInBounds_toArray]); (try simp only [List.set_cons_succ]); (try simp only [List.set_cons_zero])
          refine wpAnyH_take (i := 4) (oi := { dst := some 84, op := Go.Op.move (Go.Operand.tmp 1), type := 9, pos := _, after := #[], guard := none }) (v := .string T1) rfl (by kernel_rfl) (by kernel_rfl) (by kernel_rfl) (fun _ _ _ h => h) (Or.inl ⟨by rfl, fun w' hSw => ?_⟩) (by assumption) ?_
          · (try dsimp only at hSw); go_simp
          (try simp only [Act.put]); (try simp only [List.setIfInBounds_toArray]); (try simp only [List.set_cons_succ]); (try simp only [List.set_cons_zero])
          refine wpAnyH_take (i := 5) (oi := { dst := some 85, op := Go.Op.call { callee := Go.Callee.builtin Go.Builtin.len, args := #[Go.Operand.tmp 84], argTypes := #[9] }, type := 3, pos := _, after := #[{ on := 4, ground := Go.Ground.data }], guard := none }) (v := .int .i64 (T.length : Int)) rfl (by kernel_rfl) (by kernel_rfl) (by kernel_rfl) (fun _ _ _ h => h) (Or.inl ⟨by rfl, fun w' hSw => ?_⟩) (by assumption) ?_
          · (try dsimp only at hSw); go_simp
          (try simp only [Act.put]); (try simp only [List.setIfInBounds_toArray]); (try simp only [List.set_cons_succ]); (try simp only [List.set_cons_zero])
          refine wpAnyH_ready (rs := [6, 14]) (by kernel_rfl) (by simp) ?_
          refine AllReadyH.cons (o := { dst := some 86, op := Go.Op.call { callee := Go.Callee.value (Go.Operand.func 24), args := #[Go.Operand.const (Go.Value.string { data := #[127] }), Go.Operand.tmp 85], argTypes := #[9, 3] }, type := 9, pos := _, after := #[{ on := 5, ground := Go.Ground.data }], guard := none }) rfl (fun K hK => ?_) ?_
          · skip
            go_simp
            refine (HRP1.out _).mono ?_
            rintro e v1 ⟨rfl, hbv1⟩
            have e1 : Ext w5.drew v1 := Ext.trans hE hbv1
            go_wp2_with fail
            refine hK.out _ _ e1 (fun hHeld => ?_)
            clear hK K
            (try simp only [Act.put]); (try simp only [List.setIfInBounds_toArray]); (try simp only [List.set_cons_succ]); (try simp only [List.set_cons_zero])
            refine wpAnyH_take (i := 7) (oi := { dst := some 87, op := Go.Op.binOp Go.BinOp.add 9 (Go.Operand.tmp 83) (Go.Operand.tmp 86) 9, type := 9, pos := _, after := #[{ on := 3, ground := Go.Ground.data }, { on := 6, ground := Go.Ground.data }], guard := none }) (v := .string (T1 ++ RP)) rfl (by kernel_rfl) (by kernel_rfl) (by kernel_rfl) (fun _ _ _ h => h) (Or.inl ⟨by rfl, fun w' hSw => ?_⟩) (by assumption) ?_
            · (try dsimp only at hSw); go_simp
            (try simp only [Act.put]); (try simp only [List.setIfInBounds_toArray]); (try simp only [List.set_cons_succ]); (try simp only [List.set_cons_zero])
            refine wpAnyH_ready (rs := [8, 14]) (by kernel_rfl) (by simp) ?_
            refine AllReadyH.cons (o := { dst := some 88, op := Go.Op.call { callee := Go.Callee.value (Go.Operand.func 9), args := #[Go.Operand.tmp 80, Go.Operand.tmp 81, Go.Operand.tmp 82, Go.Operand.tmp 87], argTypes := #[23, 26, 30, 9] }, type := 33, pos := _, after := #[{ on := 0, ground := Go.Ground.data }, { on := 1, ground := Go.Ground.data }, { on := 2, ground := Go.Ground.data }, { on := 7, ground := Go.Ground.data }, { on := 6, ground := Go.Ground.chain }], guard := none }) rfl (fun K hK => ?_) ?_
            · skip
              go_simp
              refine (HCB.out _).mono ?_
              rintro e v2 ⟨al1, cl1, n1, x1, hn1, rfl, hbv2⟩
              have e2 : Ext w5.drew v2 := Ext.trans e1 hbv2
              go_wp2_with fail
              refine hK.out _ _ e2 (fun hHeld => ?_)
              clear hK K
              (try simp only [Act.put]); (try simp only [List.setIfInBounds_toArray]); (try simp only [List.set_cons_succ]); (try simp only [List.set_cons_zero])
              refine wpAnyH_take (i := 9) (oi := { dst := some 79, op := Go.Op.move (Go.Operand.tmp 88), type := 33, pos := _, after := #[{ on := 8, ground := Go.Ground.data }], guard := none }) (v := .tuple #[.agg #[.string X, .bool false], .slice al1 n1 cl1, .string x1, .int .i64 0]) rfl (by kernel_rfl) (by kernel_rfl) (by kernel_rfl) (fun _ _ _ h => h) (Or.inl ⟨by rfl, fun w' hSw => ?_⟩) (by assumption) ?_
              · (try dsimp only at hSw); go_simp
              (try simp only [Act.put]); (try simp only [List.setIfInBounds_toArray]); (try simp only [List.set_cons_succ]); (try simp only [List.set_cons_zero])
              refine wpAnyH_take (i := 10) (oi := { dst := some 89, op := Go.Op.extract (Go.Operand.tmp 79) 0, type := 23, pos := _, after := #[{ on := 9, ground := Go.Ground.data }], guard := none }) (v := .agg #[.string X, .bool false]) rfl (by kernel_rfl) (by kernel_rfl) (by kernel_rfl) (fun _ _ _ h => h) (Or.inl ⟨by rfl, fun w' hSw => ?_⟩) (by assumption) ?_
              · (try dsimp only at hSw); go_simp
              (try simp only [Act.put]); (try simp only [List.setIfInBounds_toArray]); (try simp only [List.set_cons_succ]); (try simp only [List.set_cons_zero])
              refine wpAnyH_take (i := 11) (oi := { dst := some 90, op := Go.Op.extract (Go.Operand.tmp 79) 1, type := 31, pos := _, after := #[{ on := 9, ground := Go.Ground.data }, { on := 15, ground := Go.Ground.gcOnly Go.Departure.lateStores }], guard := none }) (v := .slice al1 n1 cl1) rfl (by kernel_rfl) (by kernel_rfl) (by kernel_rfl) (fun _ _ _ h => h) (Or.inl ⟨by rfl, fun w' hSw => ?_⟩) (by assumption) ?_
              · (try dsimp only at hSw); go_simp
              (try simp only [Act.put]); (try simp only [List.setIfInBounds_toArray]); (try simp only [List.set_cons_succ]); (try simp only [List.set_cons_zero])
              refine wpAnyH_take (i := 12) (oi := { dst := some 91, op := Go.Op.extract (Go.Operand.tmp 79) 2, type := 9, pos := _, after := #[{ on := 9, ground := Go.Ground.data }, { on := 16, ground := Go.Ground.gcOnly Go.Departure.lateStores }], guard := none }) (v := .string x1) rfl (by kernel_rfl) (by kernel_rfl) (by kernel_rfl) (fun _ _ _ h => h) (Or.inl ⟨by rfl, fun w' hSw => ?_⟩) (by assumption) ?_
              · (try dsimp only at hSw); go_simp
              (try simp only [Act.put]); (try simp only [List.setIfInBounds_toArray]); (try simp only [List.set_cons_succ]); (try simp only [List.set_cons_zero])
              refine wpAnyH_take (i := 13) (oi := { dst := some 92, op := Go.Op.extract (Go.Operand.tmp 79) 3, type := 32, pos := _, after := #[{ on := 9, ground := Go.Ground.data }, { on := 17, ground := Go.Ground.gcOnly Go.Departure.lateStores }], guard := none }) (v := .int .i64 0) rfl (by kernel_rfl) (by kernel_rfl) (by kernel_rfl) (fun _ _ _ h => h) (Or.inl ⟨by rfl, fun w' hSw => ?_⟩) (by assumption) ?_
              · (try dsimp only at hSw); go_simp
              (try simp only [Act.put]); (try simp only [List.setIfInBounds_toArray]); (try simp only [List.set_cons_succ]); (try simp only [List.set_cons_zero])
              refine wpAnyH_ready (rs := [14]) (by kernel_rfl) (by simp) ?_
              refine AllReadyH.cons (o := { dst := some 13, op := Go.Op.alloc 23, type := 0, pos := _, after := #[], guard := none }) rfl (fun K hK => ?_) ?_
              · skip
                go_simp
                have e3 : Ext w5.drew (v2.alloc (.cells #[.string { data := #[] }, .bool false] 23)) := Below.alloc e2 (Ext.size e2) _
                have bx0 : Hid (Box (v2.alloc (.cells #[.string { data := #[] }, .bool false] 23)) v2.heap.size 23 [.string { data := #[] }, .bool false]) := Box.new v2 _ _
                have zb : w5.heap.size ≤ v2.heap.size := (Ext.size e2 : w5.drew.heap.size ≤ _)
                refine hK.out _ _ e3 (fun hHeld => ?_)
                clear hK K
                (try simp only [Act.put]); (try simp only [List.setIfInBounds_toArray]); (try simp only [List.set_cons_succ]); (try simp only [List.set_cons_zero])
                refine wpAnyH_ready (rs := [15]) (by kernel_rfl) (by simp) ?_
                refine AllReadyH.cons (o := { dst := none, op := Go.Op.store 23 (Go.Operand.tmp 13) (Go.Operand.tmp 89), type := 0, pos := _, after := #[{ on := 14, ground := Go.Ground.data }, { on := 10, ground := Go.Ground.data }, { on := 8, ground := Go.Ground.chain }, { on := 0, ground := Go.Ground.phase }, { on := 1, ground := Go.Ground.phase }, { on := 2, ground := Go.Ground.phase }, { on := 3, ground := Go.Ground.phase }, { on := 4, ground := Go.Ground.phase }, { on := 5, ground := Go.Ground.phase }, { on := 6, ground := Go.Ground.phase }, { on := 7, ground := Go.Ground.phase }, { on := 8, ground := Go.Ground.phase }, { on := 9, ground := Go.Ground.phase }, { on := 10, ground := Go.Ground.phase }, { on := 11, ground := Go.Ground.textOnly Go.Departure.lateStores }, { on := 12, ground := Go.Ground.textOnly Go.Departure.lateStores }, { on := 13, ground := Go.Ground.textOnly Go.Departure.lateStores }, { on := 14, ground := Go.Ground.phase }], guard := none }) rfl (fun K hK => ?_) ?_
                · skip
                  go_simp
                  have e4 : Ext w5.drew (v2.alloc (.cells #[.string X, .bool false] 23)) := Below.alloc e2 (Ext.size e2) _
                  have bxf : Hid (Box (v2.alloc (.cells #[.string X, .bool false] 23)) v2.heap.size 23 [.string X, .bool false]) := Box.new v2 _ _
                  refine hK.out _ _ e4 (fun hHeld => ?_)
                  clear hK K
                  (try simp only [Act.put]); (try simp only [List.setIfInBounds_toArray]); (try simp only [List.set_cons_succ]); (try simp only [List.set_cons_zero])
                  refine wpAnyH_take (i := 16) (oi := { dst := some 14, op := Go.Op.assign (Go.Operand.tmp 90), type := 31, pos := _, after := #[{ on := 11, ground := Go.Ground.data }, { on := 15, ground := Go.Ground.chain }, { on := 0, ground := Go.Ground.phase }, { on := 1, ground := Go.Ground.phase }, { on := 2, ground := Go.Ground.phase }, { on := 3, ground := Go.Ground.phase }, { on := 4, ground := Go.Ground.phase }, { on := 5, ground := Go.Ground.phase }, { on := 6, ground := Go.Ground.phase }, { on := 7, ground := Go.Ground.phase }, { on := 8, ground := Go.Ground.phase }, { on := 9, ground := Go.Ground.phase }, { on := 10, ground := Go.Ground.phase }, { on := 11, ground := Go.Ground.phase }, { on := 12, ground := Go.Ground.textOnly Go.Departure.lateStores }, { on := 13, ground := Go.Ground.textOnly Go.Departure.lateStores }, { on := 14, ground := Go.Ground.phase }, { on := 15, ground := Go.Ground.phase }], guard := none }) (v := .slice al1 n1 cl1) rfl (by kernel_rfl) (by kernel_rfl) (by kernel_rfl) (fun _ _ _ h => h) (Or.inl ⟨by rfl, fun w' hSw => ?_⟩) (by assumption) ?_
                  · (try dsimp only at hSw); go_simp
                  (try simp only [Act.put]); (try simp only [List.setIfInBounds_toArray]); (try simp only [List.set_cons_succ]); (try simp only [List.set_cons_zero])
                  refine wpAnyH_take (i := 17) (oi := { dst := some 15, op := Go.Op.assign (Go.Operand.tmp 91), type := 9, pos := _, after := #[{ on := 12, ground := Go.Ground.data }, { on := 16, ground := Go.Ground.chain }, { on := 0, ground := Go.Ground.phase }, { on := 1, ground := Go.Ground.phase }, { on := 2, ground := Go.Ground.phase }, { on := 3, ground := Go.Ground.phase }, { on := 4, ground := Go.Ground.phase }, { on := 5, ground := Go.Ground.phase }, { on := 6, ground := Go.Ground.phase }, { on := 7, ground := Go.Ground.phase }, { on := 8, ground := Go.Ground.phase }, { on := 9, ground := Go.Ground.phase }, { on := 10, ground := Go.Ground.phase }, { on := 11, ground := Go.Ground.phase }, { on := 12, ground := Go.Ground.phase }, { on := 13, ground := Go.Ground.textOnly Go.Departure.lateStores }, { on := 14, ground := Go.Ground.phase }, { on := 15, ground := Go.Ground.phase }, { on := 16, ground := Go.Ground.phase }], guard := none }) (v := .string x1) rfl (by kernel_rfl) (by kernel_rfl) (by kernel_rfl) (fun _ _ _ h => h) (Or.inl ⟨by rfl, fun w' hSw => ?_⟩) (by assumption) ?_
                  · (try dsimp only at hSw); go_simp
                  (try simp only [Act.put]); (try simp only [List.setIfInBounds_toArray]); (try simp only [List.set_cons_succ]); (try simp only [List.set_cons_zero])
                  refine wpAnyH_take (i := 18) (oi := { dst := some 16, op := Go.Op.assign (Go.Operand.tmp 92), type := 32, pos := _, after := #[{ on := 13, ground := Go.Ground.data }, { on := 17, ground := Go.Ground.chain }, { on := 0, ground := Go.Ground.phase }, { on := 1, ground := Go.Ground.phase }, { on := 2, ground := Go.Ground.phase }, { on := 3, ground := Go.Ground.phase }, { on := 4, ground := Go.Ground.phase }, { on := 5, ground := Go.Ground.phase }, { on := 6, ground := Go.Ground.phase }, { on := 7, ground := Go.Ground.phase }, { on := 8, ground := Go.Ground.phase }, { on := 9, ground := Go.Ground.phase }, { on := 10, ground := Go.Ground.phase }, { on := 11, ground := Go.Ground.phase }, { on := 12, ground := Go.Ground.phase }, { on := 13, ground := Go.Ground.phase }, { on := 14, ground := Go.Ground.phase }, { on := 15, ground := Go.Ground.phase }, { on := 16, ground := Go.Ground.phase }, { on := 17, ground := Go.Ground.phase }], guard := none }) (v := .int .i64 0) rfl (by kernel_rfl) (by kernel_rfl) (by kernel_rfl) (fun _ _ _ h => h) (Or.inl ⟨by rfl, fun w' hSw => ?_⟩) (by assumption) ?_
                  · (try dsimp only at hSw); go_simp
                  (try simp only [Act.put]); (try simp only [List.setIfInBounds_toArray]); (try simp only [List.set_cons_succ]); (try simp only [List.set_cons_zero])
                  refine wpAnyH_done (by kernel_rfl) ?_ _
                  refine NoPanic.normal ?_
                  have HF := Hid.mk' (HB5D.out.trans (Below.mono e4 HB5D.out.size))
                  have BX7 := Hid.mk' (BX5D.out.later e4)
                  generalize (v2.alloc (.cells #[.string X, .bool false] 23)) = wE at *
                  obtain rfl : n1 = 0 := hn1.out
                  have d0 := bxf.out.cell (j := 0) rfl
                  have d1 := bxf.out.cell (j := 1) rfl
                  have d2 := BX7.out.cell (j := 0) rfl
                  have d3 := BX7.out.cell (j := 1) rfl
                  clear e4
                  go_wp2
                  go_ret
                  exact ⟨rfl, HF.out⟩
                exact AllReadyH.nil
              exact AllReadyH.nil
            refine AllReadyH.cons (o := { dst := some 13, op := Go.Op.alloc 23, type := 0, pos := _, after := #[], guard := none }) rfl (fun K hK => ?_) ?_
            · skip
              go_simp
              have e5 : Ext w5.drew (v1.alloc (.cells #[.string { data := #[] }, .bool false] 23)) := Below.alloc e1 (Ext.size e1) _
              have bx1 : Hid (Box (v1.alloc (.cells #[.string { data := #[] }, .bool false] 23)) v1.heap.size 23 [.string { data := #[] }, .bool false]) := Box.new v1 _ _
              have zb : w5.heap.size ≤ v1.heap.size := (Ext.size e1 : w5.drew.heap.size ≤ _)
              refine hK.out _ _ e5 (fun hHeld => ?_)
              clear hK K
              (try simp only [Act.put]); (try simp only [List.setIfInBounds_toArray]); (try simp only [List.set_cons_succ]); (try simp only [List.set_cons_zero])
              refine wpAnyH_ready (rs := [8]) (by kernel_rfl) (by simp) ?_
              refine AllReadyH.cons (o := { dst := some 88, op := Go.Op.call { callee := Go.Callee.value (Go.Operand.func 9), args := #[Go.Operand.tmp 80, Go.Operand.tmp 81, Go.Operand.tmp 82, Go.Operand.tmp 87], argTypes := #[23, 26, 30, 9] }, type := 33, pos := _, after := #[{ on := 0, ground := Go.Ground.data }, { on := 1, ground := Go.Ground.data }, { on := 2, ground := Go.Ground.data }, { on := 7, ground := Go.Ground.data }, { on := 6, ground := Go.Ground.chain }], guard := none }) rfl (fun K hK => ?_) ?_
              · skip
                go_simp
                refine (HCB.out _).mono ?_
                rintro e v6 ⟨al1, cl1, n1, x1, hn1, rfl, hbv6⟩
                have e6 : Ext w5.drew v6 := Ext.trans e5 hbv6
                have bx2 := Hid.mk' (bx1.out.later hbv6)
                go_wp2_with fail
                refine hK.out _ _ e6 (fun hHeld => ?_)
                clear hK K
                (try simp only [Act.put]); (try simp only [List.setIfInBounds_toArray]); (try simp only [List.set_cons_succ]); (try simp only [List.set_cons_zero])
                refine wpAnyH_take (i := 9) (oi := { dst := some 79, op := Go.Op.move (Go.Operand.tmp 88), type := 33, pos := _, after := #[{ on := 8, ground := Go.Ground.data }], guard := none }) (v := .tuple #[.agg #[.string X, .bool false], .slice al1 n1 cl1, .string x1, .int .i64 0]) rfl (by kernel_rfl) (by kernel_rfl) (by kernel_rfl) (fun _ _ _ h => h) (Or.inl ⟨by rfl, fun w' hSw => ?_⟩) (by assumption) ?_
                · (try dsimp only at hSw); go_simp
                (try simp only [Act.put]); (try simp only [List.setIfInBounds_toArray]); (try simp only [List.set_cons_succ]); (try simp only [List.set_cons_zero])
                refine wpAnyH_take (i := 10) (oi := { dst := some 89, op := Go.Op.extract (Go.Operand.tmp 79) 0, type := 23, pos := _, after := #[{ on := 9, ground := Go.Ground.data }], guard := none }) (v := .agg #[.string X, .bool false]) rfl (by kernel_rfl) (by kernel_rfl) (by kernel_rfl) (fun _ _ _ h => h) (Or.inl ⟨by rfl, fun w' hSw => ?_⟩) (by assumption) ?_
                · (try dsimp only at hSw); go_simp
                (try simp only [Act.put]); (try simp only [List.setIfInBounds_toArray]); (try simp only [List.set_cons_succ]); (try simp only [List.set_cons_zero])
                refine wpAnyH_take (i := 11) (oi := { dst := some 90, op := Go.Op.extract (Go.Operand.tmp 79) 1, type := 31, pos := _, after := #[{ on := 9, ground := Go.Ground.data }, { on := 15, ground := Go.Ground.gcOnly Go.Departure.lateStores }], guard := none }) (v := .slice al1 n1 cl1) rfl (by kernel_rfl) (by kernel_rfl) (by kernel_rfl) (fun _ _ _ h => h) (Or.inl ⟨by rfl, fun w' hSw => ?_⟩) (by assumption) ?_
                · (try dsimp only at hSw); go_simp
                (try simp only [Act.put]); (try simp only [List.setIfInBounds_toArray]); (try simp only [List.set_cons_succ]); (try simp only [List.set_cons_zero])
                refine wpAnyH_take (i := 12) (oi := { dst := some 91, op := Go.Op.extract (Go.Operand.tmp 79) 2, type := 9, pos := _, after := #[{ on := 9, ground := Go.Ground.data }, { on := 16, ground := Go.Ground.gcOnly Go.Departure.lateStores }], guard := none }) (v := .string x1) rfl (by kernel_rfl) (by kernel_rfl) (by kernel_rfl) (fun _ _ _ h => h) (Or.inl ⟨by rfl, fun w' hSw => ?_⟩) (by assumption) ?_
                · (try dsimp only at hSw); go_simp
                (try simp only [Act.put]); (try simp only [List.setIfInBounds_toArray]); (try simp only [List.set_cons_succ]); (try simp only [List.set_cons_zero])
                refine wpAnyH_take (i := 13) (oi := { dst := some 92, op := Go.Op.extract (Go.Operand.tmp 79) 3, type := 32, pos := _, after := #[{ on := 9, ground := Go.Ground.data }, { on := 17, ground := Go.Ground.gcOnly Go.Departure.lateStores }], guard := none }) (v := .int .i64 0) rfl (by kernel_rfl) (by kernel_rfl) (by kernel_rfl) (fun _ _ _ h => h) (Or.inl ⟨by rfl, fun w' hSw => ?_⟩) (by assumption) ?_
                · (try dsimp only at hSw); go_simp
                (try simp only [Act.put]); (try simp only [List.setIfInBounds_toArray]); (try simp only [List.set_cons_succ]); (try simp only [List.set_cons_zero])
                refine wpAnyH_ready (rs := [15]) (by kernel_rfl) (by simp) ?_
                refine AllReadyH.cons (o := { dst := none, op := Go.Op.store 23 (Go.Operand.tmp 13) (Go.Operand.tmp 89), type := 0, pos := _, after := #[{ on := 14, ground := Go.Ground.data }, { on := 10, ground := Go.Ground.data }, { on := 8, ground := Go.Ground.chain }, { on := 0, ground := Go.Ground.phase }, { on := 1, ground := Go.Ground.phase }, { on := 2, ground := Go.Ground.phase }, { on := 3, ground := Go.Ground.phase }, { on := 4, ground := Go.Ground.phase }, { on := 5, ground := Go.Ground.phase }, { on := 6, ground := Go.Ground.phase }, { on := 7, ground := Go.Ground.phase }, { on := 8, ground := Go.Ground.phase }, { on := 9, ground := Go.Ground.phase }, { on := 10, ground := Go.Ground.phase }, { on := 11, ground := Go.Ground.textOnly Go.Departure.lateStores }, { on := 12, ground := Go.Ground.textOnly Go.Departure.lateStores }, { on := 13, ground := Go.Ground.textOnly Go.Departure.lateStores }, { on := 14, ground := Go.Ground.phase }], guard := none }) rfl (fun K hK => ?_) ?_
                · skip
                  have c0 := bx2.out.cell (j := 0) rfl
                  have c1 := bx2.out.cell (j := 1) rfl
                  have f0 := bx2.out.frozen 0
                  have f1 := bx2.out.frozen 1
                  go_simp
                  have e7 : Ext w5.drew ((v6.setCell ⟨v1.heap.size, 0, none⟩ (.string X)).setCell ⟨v1.heap.size, 1, none⟩ (.bool false)) := (e6.setCell (p := ⟨v1.heap.size, 0, none⟩) (by show w5.heap.size ≤ v1.heap.size; omega) _).setCell (p := ⟨v1.heap.size, 1, none⟩) (by show w5.heap.size ≤ v1.heap.size; omega) _
                  have bxf : Hid (Box ((v6.setCell ⟨v1.heap.size, 0, none⟩ (.string X)).setCell ⟨v1.heap.size, 1, none⟩ (.bool false)) v1.heap.size 23 [.string X, .bool false]) := (bx2.out.setCell 0 (.string X)).setCell 1 (.bool false)
                  clear c0 c1 f0 f1
                  refine hK.out _ _ e7 (fun hHeld => ?_)
                  clear hK K
                  (try simp only [Act.put]); (try simp only [List.setIfInBounds_toArray]); (try simp only [List.set_cons_succ]); (try simp only [List.set_cons_zero])
                  refine wpAnyH_take (i := 16) (oi := { dst := some 14, op := Go.Op.assign (Go.Operand.tmp 90), type := 31, pos := _, after := #[{ on := 11, ground := Go.Ground.data }, { on := 15, ground := Go.Ground.chain }, { on := 0, ground := Go.Ground.phase }, { on := 1, ground := Go.Ground.phase }, { on := 2, ground := Go.Ground.phase }, { on := 3, ground := Go.Ground.phase }, { on := 4, ground := Go.Ground.phase }, { on := 5, ground := Go.Ground.phase }, { on := 6, ground := Go.Ground.phase }, { on := 7, ground := Go.Ground.phase }, { on := 8, ground := Go.Ground.phase }, { on := 9, ground := Go.Ground.phase }, { on := 10, ground := Go.Ground.phase }, { on := 11, ground := Go.Ground.phase }, { on := 12, ground := Go.Ground.textOnly Go.Departure.lateStores }, { on := 13, ground := Go.Ground.textOnly Go.Departure.lateStores }, { on := 14, ground := Go.Ground.phase }, { on := 15, ground := Go.Ground.phase }], guard := none }) (v := .slice al1 n1 cl1) rfl (by kernel_rfl) (by kernel_rfl) (by kernel_rfl) (fun _ _ _ h => h) (Or.inl ⟨by rfl, fun w' hSw => ?_⟩) (by assumption) ?_
                  · (try dsimp only at hSw); go_simp
                  (try simp only [Act.put]); (try simp only [List.setIfInBounds_toArray]); (try simp only [List.set_cons_succ]); (try simp only [List.set_cons_zero])
                  refine wpAnyH_take (i := 17) (oi := { dst := some 15, op := Go.Op.assign (Go.Operand.tmp 91), type := 9, pos := _, after := #[{ on := 12, ground := Go.Ground.data }, { on := 16, ground := Go.Ground.chain }, { on := 0, ground := Go.Ground.phase }, { on := 1, ground := Go.Ground.phase }, { on := 2, ground := Go.Ground.phase }, { on := 3, ground := Go.Ground.phase }, { on := 4, ground := Go.Ground.phase }, { on := 5, ground := Go.Ground.phase }, { on := 6, ground := Go.Ground.phase }, { on := 7, ground := Go.Ground.phase }, { on := 8, ground := Go.Ground.phase }, { on := 9, ground := Go.Ground.phase }, { on := 10, ground := Go.Ground.phase }, { on := 11, ground := Go.Ground.phase }, { on := 12, ground := Go.Ground.phase }, { on := 13, ground := Go.Ground.textOnly Go.Departure.lateStores }, { on := 14, ground := Go.Ground.phase }, { on := 15, ground := Go.Ground.phase }, { on := 16, ground := Go.Ground.phase }], guard := none }) (v := .string x1) rfl (by kernel_rfl) (by kernel_rfl) (by kernel_rfl) (fun _ _ _ h => h) (Or.inl ⟨by rfl, fun w' hSw => ?_⟩) (by assumption) ?_
                  · (try dsimp only at hSw); go_simp
                  (try simp only [Act.put]); (try simp only [List.setIfInBounds_toArray]); (try simp only [List.set_cons_succ]); (try simp only [List.set_cons_zero])
                  refine wpAnyH_take (i := 18) (oi := { dst := some 16, op := Go.Op.assign (Go.Operand.tmp 92), type := 32, pos := _, after := #[{ on := 13, ground := Go.Ground.data }, { on := 17, ground := Go.Ground.chain }, { on := 0, ground := Go.Ground.phase }, { on := 1, ground := Go.Ground.phase }, { on := 2, ground := Go.Ground.phase }, { on := 3, ground := Go.Ground.phase }, { on := 4, ground := Go.Ground.phase }, { on := 5, ground := Go.Ground.phase }, { on := 6, ground := Go.Ground.phase }, { on := 7, ground := Go.Ground.phase }, { on := 8, ground := Go.Ground.phase }, { on := 9, ground := Go.Ground.phase }, { on := 10, ground := Go.Ground.phase }, { on := 11, ground := Go.Ground.phase }, { on := 12, ground := Go.Ground.phase }, { on := 13, ground := Go.Ground.phase }, { on := 14, ground := Go.Ground.phase }, { on := 15, ground := Go.Ground.phase }, { on := 16, ground := Go.Ground.phase }, { on := 17, ground := Go.Ground.phase }], guard := none }) (v := .int .i64 0) rfl (by kernel_rfl) (by kernel_rfl) (by kernel_rfl) (fun _ _ _ h => h) (Or.inl ⟨by rfl, fun w' hSw => ?_⟩) (by assumption) ?_
                  · (try dsimp only at hSw); go_simp
                  (try simp only [Act.put]); (try simp only [List.setIfInBounds_toArray]); (try simp only [List.set_cons_succ]); (try simp only [List.set_cons_zero])
                  refine wpAnyH_done (by kernel_rfl) ?_ _
                  refine NoPanic.normal ?_
                  have HF := Hid.mk' (HB5D.out.trans (Below.mono e7 HB5D.out.size))
                  have BX7 := Hid.mk' (BX5D.out.later e7)
                  generalize ((v6.setCell ⟨v1.heap.size, 0, none⟩ (.string X)).setCell ⟨v1.heap.size, 1, none⟩ (.bool false)) = wE at *
                  obtain rfl : n1 = 0 := hn1.out
                  have d0 := bxf.out.cell (j := 0) rfl
                  have d1 := bxf.out.cell (j := 1) rfl
                  have d2 := BX7.out.cell (j := 0) rfl
                  have d3 := BX7.out.cell (j := 1) rfl
                  clear e7
                  go_wp2
                  go_ret
                  exact ⟨rfl, HF.out⟩
                exact AllReadyH.nil
              exact AllReadyH.nil
            exact AllReadyH.nil
          refine AllReadyH.cons (o := { dst := some 13, op := Go.Op.alloc 23, type := 0, pos := _, after := #[], guard := none }) rfl (fun K hK => ?_) ?_
          · skip
            go_simp
            have e8 : Ext w5.drew (w5.drew.alloc (.cells #[.string { data := #[] }, .bool false] 23)) := Below.alloc hE (Ext.size hE) _
            have bx3 : Hid (Box (w5.drew.alloc (.cells #[.string { data := #[] }, .bool false] 23)) w5.heap.size 23 [.string { data := #[] }, .bool false]) := Box.new w5.drew _ _
            have zb : w5.heap.size ≤ w5.heap.size := (Ext.size hE : w5.drew.heap.size ≤ _)
            refine hK.out _ _ e8 (fun hHeld => ?_)
            clear hK K
            (try simp only [Act.put]); (try simp only [List.setIfInBounds_toArray]); (try simp only [List.set_cons_succ]); (try simp only [List.set_cons_zero])
            refine wpAnyH_ready (rs := [6]) (by kernel_rfl) (by simp) ?_
            refine AllReadyH.cons (o := { dst := some 86, op := Go.Op.call { callee := Go.Callee.value (Go.Operand.func 24), args := #[Go.Operand.const (Go.Value.string { data := #[127] }), Go.Operand.tmp 85], argTypes := #[9, 3] }, type := 9, pos := _, after := #[{ on := 5, ground := Go.Ground.data }], guard := none }) rfl (fun K hK => ?_) ?_
            · skip
              go_simp
              refine (HRP1.out _).mono ?_
              rintro e v9 ⟨rfl, hbv9⟩
              have e9 : Ext w5.drew v9 := Ext.trans e8 hbv9
              have bx4 := Hid.mk' (bx3.out.later hbv9)
              go_wp2_with fail
              refine hK.out _ _ e9 (fun hHeld => ?_)
              clear hK K
              (try simp only [Act.put]); (try simp only [List.setIfInBounds_toArray]); (try simp only [List.set_cons_succ]); (try simp only [List.set_cons_zero])
              refine wpAnyH_take (i := 7) (oi := { dst := some 87, op := Go.Op.binOp Go.BinOp.add 9 (Go.Operand.tmp 83) (Go.Operand.tmp 86) 9, type := 9, pos := _, after := #[{ on := 3, ground := Go.Ground.data }, { on := 6, ground := Go.Ground.data }], guard := none }) (v := .string (T1 ++ RP)) rfl (by kernel_rfl) (by kernel_rfl) (by kernel_rfl) (fun _ _ _ h => h) (Or.inl ⟨by rfl, fun w' hSw => ?_⟩) (by assumption) ?_
              · (try dsimp only at hSw); go_simp
              (try simp only [Act.put]); (try simp only [List.setIfInBounds_toArray]); (try simp only [List.set_cons_succ]); (try simp only [List.set_cons_zero])
              refine wpAnyH_ready (rs := [8]) (by kernel_rfl) (by simp) ?_
              refine AllReadyH.cons (o := { dst := some 88, op := Go.Op.call { callee := Go.Callee.value (Go.Operand.func 9), args := #[Go.Operand.tmp 80, Go.Operand.tmp 81, Go.Operand.tmp 82, Go.Operand.tmp 87], argTypes := #[23, 26, 30, 9] }, type := 33, pos := _, after := #[{ on := 0, ground := Go.Ground.data }, { on := 1, ground := Go.Ground.data }, { on := 2, ground := Go.Ground.data }, { on := 7, ground := Go.Ground.data }, { on := 6, ground := Go.Ground.chain }], guard := none }) rfl (fun K hK => ?_) ?_
              · skip
                go_simp
                refine (HCB.out _).mono ?_
                rintro e v10 ⟨al1, cl1, n1, x1, hn1, rfl, hbv10⟩
                have e10 : Ext w5.drew v10 := Ext.trans e9 hbv10
                have bx5 := Hid.mk' (bx4.out.later hbv10)
                go_wp2_with fail
                refine hK.out _ _ e10 (fun hHeld => ?_)
                clear hK K
                (try simp only [Act.put]); (try simp only [List.setIfInBounds_toArray]); (try simp only [List.set_cons_succ]); (try simp only [List.set_cons_zero])
                refine wpAnyH_take (i := 9) (oi := { dst := some 79, op := Go.Op.move (Go.Operand.tmp 88), type := 33, pos := _, after := #[{ on := 8, ground := Go.Ground.data }], guard := none }) (v := .tuple #[.agg #[.string X, .bool false], .slice al1 n1 cl1, .string x1, .int .i64 0]) rfl (by kernel_rfl) (by kernel_rfl) (by kernel_rfl) (fun _ _ _ h => h) (Or.inl ⟨by rfl, fun w' hSw => ?_⟩) (by assumption) ?_
                · (try dsimp only at hSw); go_simp
                (try simp only [Act.put]); (try simp only [List.setIfInBounds_toArray]); (try simp only [List.set_cons_succ]); (try simp only [List.set_cons_zero])
                refine wpAnyH_take (i := 10) (oi := { dst := some 89, op := Go.Op.extract (Go.Operand.tmp 79) 0, type := 23, pos := _, after := #[{ on := 9, ground := Go.Ground.data }], guard := none }) (v := .agg #[.string X, .bool false]) rfl (by kernel_rfl) (by kernel_rfl) (by kernel_rfl) (fun _ _ _ h => h) (Or.inl ⟨by rfl, fun w' hSw => ?_⟩) (by assumption) ?_
                · (try dsimp only at hSw); go_simp
                (try simp only [Act.put]); (try simp only [List.setIfInBounds_toArray]); (try simp only [List.set_cons_succ]); (try simp only [List.set_cons_zero])
                refine wpAnyH_take (i := 11) (oi := { dst := some 90, op := Go.Op.extract (Go.Operand.tmp 79) 1, type := 31, pos := _, after := #[{ on := 9, ground := Go.Ground.data }, { on := 15, ground := Go.Ground.gcOnly Go.Departure.lateStores }], guard := none }) (v := .slice al1 n1 cl1) rfl (by kernel_rfl) (by kernel_rfl) (by kernel_rfl) (fun _ _ _ h => h) (Or.inl ⟨by rfl, fun w' hSw => ?_⟩) (by assumption) ?_
                · (try dsimp only at hSw); go_simp
                (try simp only [Act.put]); (try simp only [List.setIfInBounds_toArray]); (try simp only [List.set_cons_succ]); (try simp only [List.set_cons_zero])
                refine wpAnyH_take (i := 12) (oi := { dst := some 91, op := Go.Op.extract (Go.Operand.tmp 79) 2, type := 9, pos := _, after := #[{ on := 9, ground := Go.Ground.data }, { on := 16, ground := Go.Ground.gcOnly Go.Departure.lateStores }], guard := none }) (v := .string x1) rfl (by kernel_rfl) (by kernel_rfl) (by kernel_rfl) (fun _ _ _ h => h) (Or.inl ⟨by rfl, fun w' hSw => ?_⟩) (by assumption) ?_
                · (try dsimp only at hSw); go_simp
                (try simp only [Act.put]); (try simp only [List.setIfInBounds_toArray]); (try simp only [List.set_cons_succ]); (try simp only [List.set_cons_zero])
                refine wpAnyH_take (i := 13) (oi := { dst := some 92, op := Go.Op.extract (Go.Operand.tmp 79) 3, type := 32, pos := _, after := #[{ on := 9, ground := Go.Ground.data }, { on := 17, ground := Go.Ground.gcOnly Go.Departure.lateStores }], guard := none }) (v := .int .i64 0) rfl (by kernel_rfl) (by kernel_rfl) (by kernel_rfl) (fun _ _ _ h => h) (Or.inl ⟨by rfl, fun w' hSw => ?_⟩) (by assumption) ?_
                · (try dsimp only at hSw); go_simp
                (try simp only [Act.put]); (try simp only [List.setIfInBounds_toArray]); (try simp only [List.set_cons_succ]); (try simp only [List.set_cons_zero])
                refine wpAnyH_ready (rs := [15]) (by kernel_rfl) (by simp) ?_
                refine AllReadyH.cons (o := { dst := none, op := Go.Op.store 23 (Go.Operand.tmp 13) (Go.Operand.tmp 89), type := 0, pos := _, after := #[{ on := 14, ground := Go.Ground.data }, { on := 10, ground := Go.Ground.data }, { on := 8, ground := Go.Ground.chain }, { on := 0, ground := Go.Ground.phase }, { on := 1, ground := Go.Ground.phase }, { on := 2, ground := Go.Ground.phase }, { on := 3, ground := Go.Ground.phase }, { on := 4, ground := Go.Ground.phase }, { on := 5, ground := Go.Ground.phase }, { on := 6, ground := Go.Ground.phase }, { on := 7, ground := Go.Ground.phase }, { on := 8, ground := Go.Ground.phase }, { on := 9, ground := Go.Ground.phase }, { on := 10, ground := Go.Ground.phase }, { on := 11, ground := Go.Ground.textOnly Go.Departure.lateStores }, { on := 12, ground := Go.Ground.textOnly Go.Departure.lateStores }, { on := 13, ground := Go.Ground.textOnly Go.Departure.lateStores }, { on := 14, ground := Go.Ground.phase }], guard := none }) rfl (fun K hK => ?_) ?_
                · skip
                  have c0 := bx5.out.cell (j := 0) rfl
                  have c1 := bx5.out.cell (j := 1) rfl
                  have f0 := bx5.out.frozen 0
                  have f1 := bx5.out.frozen 1
                  go_simp
                  have e11 : Ext w5.drew ((v10.setCell ⟨w5.heap.size, 0, none⟩ (.string X)).setCell ⟨w5.heap.size, 1, none⟩ (.bool false)) := (e10.setCell (p := ⟨w5.heap.size, 0, none⟩) (by show w5.heap.size ≤ w5.heap.size; omega) _).setCell (p := ⟨w5.heap.size, 1, none⟩) (by show w5.heap.size ≤ w5.heap.size; omega) _
                  have bxf : Hid (Box ((v10.setCell ⟨w5.heap.size, 0, none⟩ (.string X)).setCell ⟨w5.heap.size, 1, none⟩ (.bool false)) w5.heap.size 23 [.string X, .bool false]) := (bx5.out.setCell 0 (.string X)).setCell 1 (.bool false)
                  clear c0 c1 f0 f1
                  refine hK.out _ _ e11 (fun hHeld => ?_)
                  clear hK K
                  (try simp only [Act.put]); (try simp only [List.setIfInBounds_toArray]); (try simp only [List.set_cons_succ]); (try simp only [List.set_cons_zero])
                  refine wpAnyH_take (i := 16) (oi := { dst := some 14, op := Go.Op.assign (Go.Operand.tmp 90), type := 31, pos := _, after := #[{ on := 11, ground := Go.Ground.data }, { on := 15, ground := Go.Ground.chain }, { on := 0, ground := Go.Ground.phase }, { on := 1, ground := Go.Ground.phase }, { on := 2, ground := Go.Ground.phase }, { on := 3, ground := Go.Ground.phase }, { on := 4, ground := Go.Ground.phase }, { on := 5, ground := Go.Ground.phase }, { on := 6, ground := Go.Ground.phase }, { on := 7, ground := Go.Ground.phase }, { on := 8, ground := Go.Ground.phase }, { on := 9, ground := Go.Ground.phase }, { on := 10, ground := Go.Ground.phase }, { on := 11, ground := Go.Ground.phase }, { on := 12, ground := Go.Ground.textOnly Go.Departure.lateStores }, { on := 13, ground := Go.Ground.textOnly Go.Departure.lateStores }, { on := 14, ground := Go.Ground.phase }, { on := 15, ground := Go.Ground.phase }], guard := none }) (v := .slice al1 n1 cl1) rfl (by kernel_rfl) (by kernel_rfl) (by kernel_rfl) (fun _ _ _ h => h) (Or.inl ⟨by rfl, fun w' hSw => ?_⟩) (by assumption) ?_
                  · (try dsimp only at hSw); go_simp
                  (try simp only [Act.put]); (try simp only [List.setIfInBounds_toArray]); (try simp only [List.set_cons_succ]); (try simp only [List.set_cons_zero])
                  refine wpAnyH_take (i := 17) (oi := { dst := some 15, op := Go.Op.assign (Go.Operand.tmp 91), type := 9, pos := _, after := #[{ on := 12, ground := Go.Ground.data }, { on := 16, ground := Go.Ground.chain }, { on := 0, ground := Go.Ground.phase }, { on := 1, ground := Go.Ground.phase }, { on := 2, ground := Go.Ground.phase }, { on := 3, ground := Go.Ground.phase }, { on := 4, ground := Go.Ground.phase }, { on := 5, ground := Go.Ground.phase }, { on := 6, ground := Go.Ground.phase }, { on := 7, ground := Go.Ground.phase }, { on := 8, ground := Go.Ground.phase }, { on := 9, ground := Go.Ground.phase }, { on := 10, ground := Go.Ground.phase }, { on := 11, ground := Go.Ground.phase }, { on := 12, ground := Go.Ground.phase }, { on := 13, ground := Go.Ground.textOnly Go.Departure.lateStores }, { on := 14, ground := Go.Ground.phase }, { on := 15, ground := Go.Ground.phase }, { on := 16, ground := Go.Ground.phase }], guard := none }) (v := .string x1) rfl (by kernel_rfl) (by kernel_rfl) (by kernel_rfl) (fun _ _ _ h => h) (Or.inl ⟨by rfl, fun w' hSw => ?_⟩) (by assumption) ?_
                  · (try dsimp only at hSw); go_simp
                  (try simp only [Act.put]); (try simp only [List.setIfInBounds_toArray]); (try simp only [List.set_cons_succ]); (try simp only [List.set_cons_zero])
                  refine wpAnyH_take (i := 18) (oi := { dst := some 16, op := Go.Op.assign (Go.Operand.tmp 92), type := 32, pos := _, after := #[{ on := 13, ground := Go.Ground.data }, { on := 17, ground := Go.Ground.chain }, { on := 0, ground := Go.Ground.phase }, { on := 1, ground := Go.Ground.phase }, { on := 2, ground := Go.Ground.phase }, { on := 3, ground := Go.Ground.phase }, { on := 4, ground := Go.Ground.phase }, { on := 5, ground := Go.Ground.phase }, { on := 6, ground := Go.Ground.phase }, { on := 7, ground := Go.Ground.phase }, { on := 8, ground := Go.Ground.phase }, { on := 9, ground := Go.Ground.phase }, { on := 10, ground := Go.Ground.phase }, { on := 11, ground := Go.Ground.phase }, { on := 12, ground := Go.Ground.phase }, { on := 13, ground := Go.Ground.phase }, { on := 14, ground := Go.Ground.phase }, { on := 15, ground := Go.Ground.phase }, { on := 16, ground := Go.Ground.phase }, { on := 17, ground := Go.Ground.phase }], guard := none }) (v := .int .i64 0) rfl (by kernel_rfl) (by kernel_rfl) (by kernel_rfl) (fun _ _ _ h => h) (Or.inl ⟨by rfl, fun w' hSw => ?_⟩) (by assumption) ?_
                  · (try dsimp only at hSw); go_simp
                  (try simp only [Act.put]); (try simp only [List.setIfInBounds_toArray]); (try simp only [List.set_cons_succ]); (try simp only [List.set_cons_zero])
                  refine wpAnyH_done (by kernel_rfl) ?_ _
                  refine NoPanic.normal ?_
                  have HF := Hid.mk' (HB5D.out.trans (Below.mono e11 HB5D.out.size))
                  have BX7 := Hid.mk' (BX5D.out.later e11)
                  generalize ((v10.setCell ⟨w5.heap.size, 0, none⟩ (.string X)).setCell ⟨w5.heap.size, 1, none⟩ (.bool false)) = wE at *
                  obtain rfl : n1 = 0 := hn1.out
                  have d0 := bxf.out.cell (j := 0) rfl
                  have d1 := bxf.out.cell (j := 1) rfl
                  have d2 := BX7.out.cell (j := 0) rfl
                  have d3 := BX7.out.cell (j := 1) rfl
                  clear e11
                  go_wp2
                  go_ret
                  exact ⟨rfl, HF.out⟩
                exact AllReadyH.nil
              exact AllReadyH.nil
            exact AllReadyH.nil
          exact AllReadyH.nil
end Go.Proofs.YtomgnnbcaficaaaDoor.L
