/-
  Contract of farref.Typing: what line.Type tells; conditions: Keys of 38 bytes, a set of four words of 64 bits.
-/
import Derived.Test.YtomgnnbcaficaaaDoorLTypBad
namespace Go.Proofs.YtomgnnbcaficaaaDoor.L
open Go.RowKit Go.Lib Go.Proofs.YtomgnnbcaficaaaDoor Go.Proofs.YtomgnnbcaficaaaDoor.W Go.Proofs.YtomgnnbcaficaaaDoor.Q

set_option maxHeartbeats 32000000 in
set_option maxRecDepth 100000 in
theorem Typing_ok (k : List UInt8) (hk : k.length = 38) (M : List Nat) (hM : H.okW M) (B T : List UInt8) (q : Bool) (w : World) (hc : K.chk k = 0) (hB : B.length < 1024) (hT : T.length ≤ 4096) :
    Calls Tryd.prog 10 #[EV (bs B) q, K.KV k, H.MV M, .string (bs T)] w fun e w' => Typ w (runS (KK k M) ⟨B, q, [], []⟩ T, 0) e w' := by
  have HS := Hid.mk' (K.sizeKV k hk)
  have HKL : Hid ((bcells k).length = 38) := by rw [Hid, bcells_length, hk]
  have HML : Hid ((H.ucells M).length = 4) := by rw [Hid, H.ucells_length, hM.1]
  have HKR := Hid.mk' (fun W => K.KeysRight_any k hk W)
  rw [hc] at HKR
  have g1 : ¬ (1024 : Int) ≤ (B.length : Int) := by omega
  have g2 : ¬ (4096 : Int) < (T.length : Int) := by omega
  have HTY : Hid (∀ (s : S) n c, room s n → ∀ W, Calls Tryd.prog 29 #[.string (bs s.buf), .bool s.q, .agg (bcells k).toArray, .agg (H.ucells M).toArray, .int .i64 ((c : UInt8).toNat : Int)] W fun e w' => Tpd W (step (KK k M) ⟨s.buf, s.q⟩ c) e w') := fun s n c h W => Typed_any k hk M hM s.buf h.1 s.q c W
  have HRS := Hid.mk' (fun n (h : n < T.length) => runS_snoc (KK k M) ⟨B, q, [], []⟩ (T.take n) (T[n]'h))
  have HTT : Hid (∀ n (h : n < T.length), T.take n ++ [T[n]'h] = T.take (n + 1)) := fun n h => (List.take_succ_eq_append_getElem h).symm
  have HTL : Hid (T.take T.length = T) := List.take_length
  have HST0 : Hid (runS (KK k M) ⟨B, q, [], []⟩ (T.take 0) = ⟨B, q, [], []⟩ ∧ room (⟨B, q, [], []⟩ : S) 0) := ⟨by rw [List.take_zero, runS_nil], ⟨hB, Nat.le_refl _, Nat.le_refl _⟩⟩
  have hsB := bs_size B
  have hsT := bs_size T
  have HGT : Hid (∀ n (h : n < T.length) (h2 : n < (bs T).size), (bs T)[n]'h2 = T[n]'h) := fun n h h2 => bs_get T n h h2
  have HSTX : Hid (∀ (w1 w2 w3 w4 w5 : World), Box w5 w.heap.size 23 [.string (bs B), .bool q] → SB w1.heap.size w2.heap.size (bcells k) (H.ucells M) w5 → Box w5 w3.heap.size 23 [.string ⟨#[]⟩, .bool false] → Below w.heap.size w w5 → w4.heap.size ≤ w5.heap.size → TSt w w1.heap.size w2.heap.size w3.heap.size w4.heap.size (bcells k) (H.ucells M) (.string ⟨#[]⟩) (.bool false) (runS (KK k M) ⟨B, q, [], []⟩ (T.take 0)) 0 (.slice none 0 0) (.string { data := #[] }) w5) := fun w1 w2 w3 w4 w5 h1 h2 h3 h4 h5 => by
    rw [HST0.out.1]
    exact ⟨none, 0, 0, rfl, rfl, rfl, OwnR.nil _ _ _ _, h1, h2, h3, HST0.out.2, h4, h5⟩
  clear hc HST0
  unfold EV edCells K.KV H.MV at *
  generalize bs T = T1 at *
  generalize hX : bs B = X at *
  generalize bcells k = l at *
  generalize H.ucells M = m at *
  clear hk hM
  go_enter Tryd.func10, Tryd.ntmps10
  go_wp2_with (refine wpList_box [.string X, .bool q] 23 rfl _ rfl rfl ?_)
  intro w1 m1
  go_wp2_with (refine wpList_box l 26 rfl _ rfl rfl ?_)
  intro w2 m2
  go_wp2_with (refine wpList_box m 30 rfl _ rfl rfl ?_)
  intro w3 m3
  go_wp2_with (refine wpList_alloc [.string ⟨#[]⟩, .bool false] 23 zeroE rfl rfl ?_)
  intro w4 m4
  have b1 := Hid.mk' (m4.keep (m3.keep (m2.keep m1.box)))
  have b2 := Hid.mk' (m4.keep (m3.keep m2.box))
  have b3 := Hid.mk' (m4.keep m3.box)
  have b4 := Hid.mk' m4.box
  have z1 := m1.lt
  have z2 := m2.lt
  have z3 := m3.lt
  have z4 := m4.lt
  have HB4 := Hid.mk' (m4.below w.heap.size w (by omega) (m3.below _ _ (by omega) (m2.below _ _ (by omega) (m1.below _ _ (Nat.le_refl _) (Below.refl _ w)))))
  clear m1 m2 m3 m4
  have e0 := b1.out.cell (j := 0) rfl
  go_wp2_with (with_reducible refine wpList_load_box 26 26 l w1.heap.size _ Tryd.underlying26 rfl HS.out b2.out rfl _ rfl rfl ?_)
  refine (HKR.out _).mono ?_
  rintro e w5 ⟨rfl, h5⟩
  have b1 := Hid.mk' (b1.out.later h5)
  have b2 := Hid.mk' (b2.out.later h5)
  have b3 := Hid.mk' (b3.out.later h5)
  have b4 := Hid.mk' (b4.out.later h5)
  have HB5 := Hid.mk' (HB4.out.trans (Below.mono h5 (by omega)))
  have z5 := h5.size
  clear h5 HB4 e0
  have HST := Hid.mk' (HSTX.out w1 w2 w3 w4 w5 b1.out ⟨b2.out, b3.out⟩ b4.out HB5.out z5)
  clear HSTX b1 b2 b3 b4 HB5 HKR HS hX
  go_wp2_with fail
  go_loopg [12, 13, 35] T.length (fun g s12 s13 s35 wr => ∃ n : Nat, n ≤ T.length ∧ T.length - n ≤ g ∧ s35 = .int .i64 (n : Int) ∧ TSt w w1.heap.size w2.heap.size w3.heap.size w4.heap.size l m (.string ⟨#[]⟩) (.bool false) (runS (KK k M) ⟨B, q, [], []⟩ (T.take n)) n s12 s13 wr)
  case atStart => exact ⟨0, Nat.zero_le _, by omega, rfl, HST.out⟩
  case round =>
    obtain ⟨n, hn, hg, rfl, al, nl, cl, rfl, rfl, HNL, HLO, BX, SBB, B3, HRm, HB, hz⟩ := hrel
    have HG := Hid.mk' hg
    clear hg HST
    by_cases hlt : n < T.length
    · have hgt := HGT.out n hlt (by rw [hsT]; exact hlt)
      have he : runS (KK k M) ⟨B, q, [], []⟩ (T.take (n + 1)) = stepS (KK k M) (runS (KK k M) ⟨B, q, [], []⟩ (T.take n)) (T[n]'hlt) := by rw [← HTT.out n hlt, HRS.out n hlt]
      have HRM : Hid (room (runS (KK k M) ⟨B, q, [], []⟩ (T.take (n + 1))) (n + 1)) := by rw [he]; exact stepS_room _ _ _ _ HRm.out
      have HTP0 := HTY.out _ n (T[n]'hlt) HRm.out
      have hs1 := sent_one (KK k M) ⟨(runS (KK k M) ⟨B, q, [], []⟩ (T.take n)).buf, (runS (KK k M) ⟨B, q, [], []⟩ (T.take n)).q⟩ (T[n]'hlt)
      have hec := step_echo (KK k M) ⟨(runS (KK k M) ⟨B, q, [], []⟩ (T.take n)).buf, (runS (KK k M) ⟨B, q, [], []⟩ (T.take n)).q⟩ (T[n]'hlt) HRm.out.1
      have hrl := HRm.out.2.1
      have hre := HRm.out.2.2
      have HES := Hid.mk' he
      clear he HTY HRS HTT HGT HTL HRm
      generalize runS (KK k M) ⟨B, q, [], []⟩ (T.take n) = s at *
      have hyb := (T[n]'hlt).toNat_lt
      unfold stepS at HES
      unfold Tpd at HTP0
      generalize step (KK k M) ⟨s.buf, s.q⟩ (T[n]'hlt) = o at *
      have hwr : IntKind.i64.wrap ((T[n]'hlt).toNat : Int) = ((T[n]'hlt).toNat : Int) := by rw [IntKind.wrap_i64]; omega
      generalize T[n]'hlt = c at *
      clear hyb
      generalize hyy : (c.toNat : Int) = y at *
      have HY := Hid.mk' hyy
      clear hyy
      have HN4 : Hid (bs (runS (KK k M) ⟨B, q, [], []⟩ (T.take (n + 1))).echo = bs s.echo ++ bs o.echo) := by rw [Hid, HES.out, bs_app]
      have HN1 : Hid ((runS (KK k M) ⟨B, q, [], []⟩ (T.take (n + 1))).ls = s.ls ++ o.sent) := by rw [Hid, HES.out]
      have HN2 : Hid (∀ W : World, Box W w.heap.size 23 [.string (bs o.ed.buf), .bool o.ed.q] → Box W w.heap.size 23 [.string (bs (runS (KK k M) ⟨B, q, [], []⟩ (T.take (n + 1))).buf), .bool (runS (KK k M) ⟨B, q, [], []⟩ (T.take (n + 1))).q]) := fun W h => by rw [HES.out]; exact h
      have hq1 : (bs s.echo).size + (bs o.echo).size ≤ 9223372036854775807 := by rw [bs_size, bs_size]; omega
      have hq2 : ¬ 9223372036854775807 < (bs s.echo).size + (bs o.echo).size := by omega
      have HRB : Hid (s.ls.length ≤ 4096) := by rw [Hid]; omega
      have HTP := Hid.mk' HTP0
      have BXD := Hid.mk' BX.out.drew
      have HBD := Hid.mk' HB.out.drew
      have B3D := Hid.mk' B3.out.drew
      have HLD : Hid (OwnR wr.drew w4.heap.size 9 1 (.slice al nl cl) nl (scells s.ls)) := HLO.out.keptAt fun _ _ => rfl
      have hE : SB w1.heap.size w2.heap.size l m wr.drew := ⟨SBB.out.1.drew, SBB.out.2.drew⟩
      clear HES hrl hre hec HTP0 BX HB B3 HLO SBB
      have HX1 : Hid (o.sent.flatten = o.sent.flatten) := rfl
      rcases hs1 with hs1 | ⟨x, hx, hs1⟩
      · rw [hs1] at HN1 HTP
        rw [List.flatten_nil, bs_nil] at HTP
        have HN1l : Hid ((runS (KK k M) ⟨B, q, [], []⟩ (T.take (n + 1))).ls = s.ls) := by rw [Hid, HN1.out, List.append_nil]
        clear HN1 HX1 hs1
        generalize hR1 : bs o.ed.buf = R1 at *
        generalize hR2 : o.ed.q = R2 at *
        generalize hR4 : bs o.echo = R4 at *
        generalize hE4 : bs s.echo = E4 at *
        generalize bs s.buf = XB at *
        generalize s.q = qb at *
        clear hR1 hR2 hR4 hE4
        go_wp2_with fail
        refine wp_region_noPanic ?_
        refine wp_region_held_drew (S := SB w1.heap.size w2.heap.size l m) (by kernel_rfl) hE (fun hHeld => ?_)
        refine wpAnyH_take (i := 0) (oi := { dst := some 39, op := Go.Op.fieldAddr 23 (Go.Operand.tmp 4) 0, type := 0, pos := _, after := #[], guard := none }) (v := .pointer (some ⟨w.heap.size, 0, none⟩)) rfl (by kernel_rfl) (by kernel_rfl) (by kernel_rfl) (fun _ _ _ h => h) (Or.inl ⟨by rfl, fun w' hSw => ?_⟩) (by assumption) ?_
        · (try dsimp only at hSw); go_simp
        (try simp only [Act.put]); (try simp only [List.setIfInBounds_toArray]); (try simp only [List.set_cons_succ]); (try simp only [List.set_cons_zero])
        refine wpAnyH_take (i := 2) (oi := { dst := some 41, op := Go.Op.fieldAddr 23 (Go.Operand.tmp 4) 1, type := 0, pos := _, after := #[], guard := none }) (v := .pointer (some ⟨w.heap.size, 1, none⟩)) rfl (by kernel_rfl) (by kernel_rfl) (by kernel_rfl) (fun _ _ _ h => h) (Or.inl ⟨by rfl, fun w' hSw => ?_⟩) (by assumption) ?_
        · (try dsimp only at hSw); go_simp
        (try simp only [Act.put]); (try simp only [List.setIfInBounds_toArray]); (try simp only [List.set_cons_succ]); (try simp only [List.set_cons_zero])
        refine wpAnyH_take (i := 4) (oi := { dst := some 43, op := Go.Op.load 26 (Go.Operand.tmp 5), type := 26, pos := _, after := #[], guard := none }) (v := .agg l.toArray) rfl (by kernel_rfl) (by kernel_rfl) (by kernel_rfl) (fun _ _ _ h => h) (Or.inl ⟨by rfl, fun w' hSw => ?_⟩) (by assumption) ?_
        · exact (exec_ldK _ _ _ _ _ _ _ _ (hSw.1.lies0 HKL.out)).trans (congrArg (fun z : List Value => Result.ok (Next.value (.agg z.toArray)) w') (hSw.1.row0 HKL.out))
        (try simp only [Act.put]); (try simp only [List.setIfInBounds_toArray]); (try simp only [List.set_cons_succ]); (try simp only [List.set_cons_zero])
        refine wpAnyH_take (i := 5) (oi := { dst := some 44, op := Go.Op.load 30 (Go.Operand.tmp 6), type := 30, pos := _, after := #[], guard := none }) (v := .agg m.toArray) rfl (by kernel_rfl) (by kernel_rfl) (by kernel_rfl) (fun _ _ _ h => h) (Or.inl ⟨by rfl, fun w' hSw => ?_⟩) (by assumption) ?_
        · exact (exec_ldM _ _ _ _ _ _ _ _ (hSw.2.lies0 HML.out)).trans (congrArg (fun z : List Value => Result.ok (Next.value (.agg z.toArray)) w') (hSw.2.row0 HML.out))
        (try simp only [Act.put]); (try simp only [List.setIfInBounds_toArray]); (try simp only [List.set_cons_succ]); (try simp only [List.set_cons_zero])
        refine wpAnyH_take (i := 6) (oi := { dst := some 45, op := Go.Op.move (Go.Operand.tmp 3), type := 9, pos := _, after := #[], guard := none }) (v := .string T1) rfl (by kernel_rfl) (by kernel_rfl) (by kernel_rfl) (fun _ _ _ h => h) (Or.inl ⟨by rfl, fun w' hSw => ?_⟩) (by assumption) ?_
        · (try dsimp only at hSw); go_simp
        (try simp only [Act.put]); (try simp only [List.setIfInBounds_toArray]); (try simp only [List.set_cons_succ]); (try simp only [List.set_cons_zero])
        refine wpAnyH_take (i := 7) (oi := { dst := some 46, op := Go.Op.move (Go.Operand.tmp 14), type := 3, pos := _, after := #[], guard := none }) (v := .int .i64 (n : Int)) rfl (by kernel_rfl) (by kernel_rfl) (by kernel_rfl) (fun _ _ _ h => h) (Or.inl ⟨by rfl, fun w' hSw => ?_⟩) (by assumption) ?_
        · (try dsimp only at hSw); go_simp
        (try simp only [Act.put]); (try simp only [List.setIfInBounds_toArray]); (try simp only [List.set_cons_succ]); (try simp only [List.set_cons_zero])
        refine wpAnyH_take (i := 8) (oi := { dst := some 47, op := Go.Op.index 9 (Go.Operand.tmp 45) (Go.Operand.tmp 46), type := 5, pos := _, after := #[{ on := 6, ground := Go.Ground.data }, { on := 7, ground := Go.Ground.data }], guard := none }) (v := .int .u8 y) rfl (by kernel_rfl) (by kernel_rfl) (by kernel_rfl) (fun _ _ _ h => h) (Or.inl ⟨by rfl, fun w' hSw => ?_⟩) (by assumption) ?_
        · (try dsimp only at hSw); go_simp; exact HY.out
        (try simp only [Act.put]); (try simp only [List.setIfInBounds_toArray]); (try simp only [List.set_cons_succ]); (try simp only [List.set_cons_zero])
        refine wpAnyH_take (i := 9) (oi := { dst := some 48, op := Go.Op.convert 5 3 (Go.Operand.tmp 47), type := 3, pos := _, after := #[{ on := 8, ground := Go.Ground.data }], guard := none }) (v := .int .i64 y) rfl (by kernel_rfl) (by kernel_rfl) (by kernel_rfl) (fun _ _ _ h => h) (Or.inl ⟨by rfl, fun w' hSw => ?_⟩) (by assumption) ?_
        · (try dsimp only at hSw); go_simp; (try exact hwr)
        (try simp only [Act.put]); (try simp only [List.setIfInBounds_toArray]); (try simp only [List.set_cons_succ]); (try simp only [List.set_cons_zero])
        refine wpAnyH_ready (rs := [1, 3]) (by kernel_rfl) (by simp) ?_
        refine AllReadyH.cons (o := { dst := some 40, op := Go.Op.load 9 (Go.Operand.tmp 39), type := 9, pos := _, after := #[{ on := 0, ground := Go.Ground.data }], guard := none }) rfl (fun K hK => ?_) ?_
        · skip
          have c0 := BXD.out.cell (j := 0) rfl; have c1 := BXD.out.cell (j := 1) rfl
          go_simp
          refine hK.out _ _ hE (fun hHeld => ?_)
          clear hK K
          (try simp only [Act.put]); (try simp only [List.setIfInBounds_toArray]); (try simp only [List.set_cons_succ]); (try simp only [List.set_cons_zero])
          refine wpAnyH_ready (rs := [3]) (by kernel_rfl) (by simp) ?_
          refine AllReadyH.cons (o := { dst := some 42, op := Go.Op.load 4 (Go.Operand.tmp 41), type := 4, pos := _, after := #[{ on := 2, ground := Go.Ground.data }], guard := none }) rfl (fun K hK => ?_) ?_
          · skip
            have c0 := BXD.out.cell (j := 0) rfl; have c1 := BXD.out.cell (j := 1) rfl
            go_simp
            refine hK.out _ _ hE (fun hHeld => ?_)
            clear hK K
            (try simp only [Act.put]); (try simp only [List.setIfInBounds_toArray]); (try simp only [List.set_cons_succ]); (try simp only [List.set_cons_zero])
            refine wpAnyH_ready (rs := [10]) (by kernel_rfl) (by simp) ?_
            refine AllReadyH.cons (o := { dst := some 49, op := Go.Op.call { callee := Go.Callee.value (Go.Operand.func 29), args := #[Go.Operand.tmp 40, Go.Operand.tmp 42, Go.Operand.tmp 43, Go.Operand.tmp 44, Go.Operand.tmp 48], argTypes := #[9, 4, 26, 30, 3] }, type := 66, pos := _, after := #[{ on := 1, ground := Go.Ground.data }, { on := 3, ground := Go.Ground.data }, { on := 4, ground := Go.Ground.data }, { on := 5, ground := Go.Ground.data }, { on := 9, ground := Go.Ground.data }], guard := none }) rfl (fun K hK => ?_) ?_
            · skip
              go_simp
              refine (HTP.out _).mono ?_
              rintro e v3 ⟨rfl, hbv3⟩
              have e3 := SB.later hE hbv3
              have BXv3 := Hid.mk' (BXD.out.later hbv3)
              have HBV := Hid.mk' (HBD.out.trans (Below.mono hbv3 HBD.out.size))
              have B3V := Hid.mk' (B3D.out.later hbv3)
              have HLV := Hid.mk' (keptBy HLD.out hbv3)
              have zV : wr.heap.size ≤ v3.heap.size := hbv3.size
              clear hbv3
              go_wp2_with fail
              refine hK.out _ _ e3 (fun hHeld => ?_)
              clear hK K
              (try simp only [Act.put]); (try simp only [List.setIfInBounds_toArray]); (try simp only [List.set_cons_succ]); (try simp only [List.set_cons_zero])
              refine wpAnyH_take (i := 11) (oi := { dst := some 38, op := Go.Op.move (Go.Operand.tmp 49), type := 66, pos := _, after := #[{ on := 10, ground := Go.Ground.data }], guard := none }) (v := .tuple #[.string R1, .bool R2, .string { data := #[] }, .string R4]) rfl (by kernel_rfl) (by kernel_rfl) (by kernel_rfl) (fun _ _ _ h => h) (Or.inl ⟨by rfl, fun w' hSw => ?_⟩) (by assumption) ?_
              · (try dsimp only at hSw); go_simp
              (try simp only [Act.put]); (try simp only [List.setIfInBounds_toArray]); (try simp only [List.set_cons_succ]); (try simp only [List.set_cons_zero])
              refine wpAnyH_take (i := 12) (oi := { dst := some 50, op := Go.Op.extract (Go.Operand.tmp 38) 0, type := 9, pos := _, after := #[{ on := 11, ground := Go.Ground.data }], guard := none }) (v := .string R1) rfl (by kernel_rfl) (by kernel_rfl) (by kernel_rfl) (fun _ _ _ h => h) (Or.inl ⟨by rfl, fun w' hSw => ?_⟩) (by assumption) ?_
              · (try dsimp only at hSw); go_simp
              (try simp only [Act.put]); (try simp only [List.setIfInBounds_toArray]); (try simp only [List.set_cons_succ]); (try simp only [List.set_cons_zero])
              refine wpAnyH_take (i := 13) (oi := { dst := some 51, op := Go.Op.extract (Go.Operand.tmp 38) 1, type := 4, pos := _, after := #[{ on := 11, ground := Go.Ground.data }, { on := 17, ground := Go.Ground.gcOnly Go.Departure.lateStores }], guard := none }) (v := .bool R2) rfl (by kernel_rfl) (by kernel_rfl) (by kernel_rfl) (fun _ _ _ h => h) (Or.inl ⟨by rfl, fun w' hSw => ?_⟩) (by assumption) ?_
              · (try dsimp only at hSw); go_simp
              (try simp only [Act.put]); (try simp only [List.setIfInBounds_toArray]); (try simp only [List.set_cons_succ]); (try simp only [List.set_cons_zero])
              refine wpAnyH_take (i := 14) (oi := { dst := some 52, op := Go.Op.extract (Go.Operand.tmp 38) 2, type := 9, pos := _, after := #[{ on := 11, ground := Go.Ground.data }, { on := 19, ground := Go.Ground.gcOnly Go.Departure.lateStores }], guard := none }) (v := .string { data := #[] }) rfl (by kernel_rfl) (by kernel_rfl) (by kernel_rfl) (fun _ _ _ h => h) (Or.inl ⟨by rfl, fun w' hSw => ?_⟩) (by assumption) ?_
              · (try dsimp only at hSw); go_simp
              (try simp only [Act.put]); (try simp only [List.setIfInBounds_toArray]); (try simp only [List.set_cons_succ]); (try simp only [List.set_cons_zero])
              refine wpAnyH_take (i := 15) (oi := { dst := some 53, op := Go.Op.extract (Go.Operand.tmp 38) 3, type := 9, pos := _, after := #[{ on := 11, ground := Go.Ground.data }, { on := 20, ground := Go.Ground.gcOnly Go.Departure.lateStores }], guard := none }) (v := .string R4) rfl (by kernel_rfl) (by kernel_rfl) (by kernel_rfl) (fun _ _ _ h => h) (Or.inl ⟨by rfl, fun w' hSw => ?_⟩) (by assumption) ?_
              · (try dsimp only at hSw); go_simp
              (try simp only [Act.put]); (try simp only [List.setIfInBounds_toArray]); (try simp only [List.set_cons_succ]); (try simp only [List.set_cons_zero])
              refine wpAnyH_take (i := 16) (oi := { dst := some 54, op := Go.Op.fieldAddr 23 (Go.Operand.tmp 4) 0, type := 0, pos := _, after := #[{ on := 0, ground := Go.Ground.phase }, { on := 1, ground := Go.Ground.phase }, { on := 2, ground := Go.Ground.phase }, { on := 3, ground := Go.Ground.phase }, { on := 4, ground := Go.Ground.phase }, { on := 5, ground := Go.Ground.phase }, { on := 6, ground := Go.Ground.phase }, { on := 7, ground := Go.Ground.phase }, { on := 8, ground := Go.Ground.phase }, { on := 9, ground := Go.Ground.phase }, { on := 10, ground := Go.Ground.phase }, { on := 11, ground := Go.Ground.phase }, { on := 12, ground := Go.Ground.phase }, { on := 13, ground := Go.Ground.textOnly Go.Departure.lateStores }, { on := 14, ground := Go.Ground.textOnly Go.Departure.lateStores }, { on := 15, ground := Go.Ground.textOnly Go.Departure.lateStores }], guard := none }) (v := .pointer (some ⟨w.heap.size, 0, none⟩)) rfl (by kernel_rfl) (by kernel_rfl) (by kernel_rfl) (fun _ _ _ h => h) (Or.inl ⟨by rfl, fun w' hSw => ?_⟩) (by assumption) ?_
              · (try dsimp only at hSw); go_simp
              (try simp only [Act.put]); (try simp only [List.setIfInBounds_toArray]); (try simp only [List.set_cons_succ]); (try simp only [List.set_cons_zero])
              refine wpAnyH_ready (rs := [17]) (by kernel_rfl) (by simp) ?_
              refine AllReadyH.cons (o := { dst := none, op := Go.Op.store 9 (Go.Operand.tmp 54) (Go.Operand.tmp 50), type := 0, pos := _, after := #[{ on := 16, ground := Go.Ground.data }, { on := 12, ground := Go.Ground.data }, { on := 10, ground := Go.Ground.chain }, { on := 0, ground := Go.Ground.phase }, { on := 1, ground := Go.Ground.phase }, { on := 2, ground := Go.Ground.phase }, { on := 3, ground := Go.Ground.phase }, { on := 4, ground := Go.Ground.phase }, { on := 5, ground := Go.Ground.phase }, { on := 6, ground := Go.Ground.phase }, { on := 7, ground := Go.Ground.phase }, { on := 8, ground := Go.Ground.phase }, { on := 9, ground := Go.Ground.phase }, { on := 10, ground := Go.Ground.phase }, { on := 11, ground := Go.Ground.phase }, { on := 12, ground := Go.Ground.phase }, { on := 13, ground := Go.Ground.textOnly Go.Departure.lateStores }, { on := 14, ground := Go.Ground.textOnly Go.Departure.lateStores }, { on := 15, ground := Go.Ground.textOnly Go.Departure.lateStores }], guard := none }) rfl (fun K hK => ?_) ?_
              · skip
                have c0 := BXv3.out.cell (j := 0) rfl
                have c1 := BXv3.out.cell (j := 1) rfl
                have f0 := BXv3.out.frozen 0
                go_simp
                have e4 : SB w1.heap.size w2.heap.size l m (v3.setCell ⟨w.heap.size, 0, none⟩ (.string R1)) := SB.set e3 _ _ _ (by omega) (by omega)
                have BXv3s := Hid.mk' (BXv3.out.setCell 0 (.string R1))
                clear c0 c1 f0
                refine hK.out _ _ e4 (fun hHeld => ?_)
                clear hK K
                (try simp only [Act.put]); (try simp only [List.setIfInBounds_toArray]); (try simp only [List.set_cons_succ]); (try simp only [List.set_cons_zero])
                refine wpAnyH_take (i := 18) (oi := { dst := some 55, op := Go.Op.fieldAddr 23 (Go.Operand.tmp 4) 1, type := 0, pos := _, after := #[{ on := 0, ground := Go.Ground.phase }, { on := 1, ground := Go.Ground.phase }, { on := 2, ground := Go.Ground.phase }, { on := 3, ground := Go.Ground.phase }, { on := 4, ground := Go.Ground.phase }, { on := 5, ground := Go.Ground.phase }, { on := 6, ground := Go.Ground.phase }, { on := 7, ground := Go.Ground.phase }, { on := 8, ground := Go.Ground.phase }, { on := 9, ground := Go.Ground.phase }, { on := 10, ground := Go.Ground.phase }, { on := 11, ground := Go.Ground.phase }, { on := 12, ground := Go.Ground.phase }, { on := 13, ground := Go.Ground.phase }, { on := 14, ground := Go.Ground.textOnly Go.Departure.lateStores }, { on := 15, ground := Go.Ground.textOnly Go.Departure.lateStores }, { on := 16, ground := Go.Ground.phase }, { on := 17, ground := Go.Ground.phase }], guard := none }) (v := .pointer (some ⟨w.heap.size, 1, none⟩)) rfl (by kernel_rfl) (by kernel_rfl) (by kernel_rfl) (fun _ _ _ h => h) (Or.inl ⟨by rfl, fun w' hSw => ?_⟩) (by assumption) ?_
                · (try dsimp only at hSw); go_simp
                (try simp only [Act.put]); (try simp only [List.setIfInBounds_toArray]); (try simp only [List.set_cons_succ]); (try simp only [List.set_cons_zero])
                refine wpAnyH_ready (rs := [19]) (by kernel_rfl) (by simp) ?_
                refine AllReadyH.cons (o := { dst := none, op := Go.Op.store 4 (Go.Operand.tmp 55) (Go.Operand.tmp 51), type := 0, pos := _, after := #[{ on := 18, ground := Go.Ground.data }, { on := 13, ground := Go.Ground.data }, { on := 17, ground := Go.Ground.chain }, { on := 0, ground := Go.Ground.phase }, { on := 1, ground := Go.Ground.phase }, { on := 2, ground := Go.Ground.phase }, { on := 3, ground := Go.Ground.phase }, { on := 4, ground := Go.Ground.phase }, { on := 5, ground := Go.Ground.phase }, { on := 6, ground := Go.Ground.phase }, { on := 7, ground := Go.Ground.phase }, { on := 8, ground := Go.Ground.phase }, { on := 9, ground := Go.Ground.phase }, { on := 10, ground := Go.Ground.phase }, { on := 11, ground := Go.Ground.phase }, { on := 12, ground := Go.Ground.phase }, { on := 13, ground := Go.Ground.phase }, { on := 14, ground := Go.Ground.textOnly Go.Departure.lateStores }, { on := 15, ground := Go.Ground.textOnly Go.Departure.lateStores }, { on := 16, ground := Go.Ground.phase }, { on := 17, ground := Go.Ground.phase }], guard := none }) rfl (fun K hK => ?_) ?_
                · skip
                  have c0 := BXv3s.out.cell (j := 0) rfl
                  have c1 := BXv3s.out.cell (j := 1) rfl
                  have f0 := BXv3s.out.frozen 1
                  go_simp
                  have e5 : SB w1.heap.size w2.heap.size l m ((v3.setCell ⟨w.heap.size, 0, none⟩ (.string R1)).setCell ⟨w.heap.size, 1, none⟩ (.bool R2)) := SB.set e4 _ _ _ (by omega) (by omega)
                  have BXv3ss := Hid.mk' (BXv3s.out.setCell 1 (.bool R2))
                  clear c0 c1 f0
                  refine hK.out _ _ e5 (fun hHeld => ?_)
                  clear hK K
                  (try simp only [Act.put]); (try simp only [List.setIfInBounds_toArray]); (try simp only [List.set_cons_succ]); (try simp only [List.set_cons_zero])
                  refine wpAnyH_take (i := 20) (oi := { dst := some 15, op := Go.Op.assign (Go.Operand.tmp 52), type := 9, pos := _, after := #[{ on := 14, ground := Go.Ground.data }, { on := 19, ground := Go.Ground.chain }, { on := 0, ground := Go.Ground.phase }, { on := 1, ground := Go.Ground.phase }, { on := 2, ground := Go.Ground.phase }, { on := 3, ground := Go.Ground.phase }, { on := 4, ground := Go.Ground.phase }, { on := 5, ground := Go.Ground.phase }, { on := 6, ground := Go.Ground.phase }, { on := 7, ground := Go.Ground.phase }, { on := 8, ground := Go.Ground.phase }, { on := 9, ground := Go.Ground.phase }, { on := 10, ground := Go.Ground.phase }, { on := 11, ground := Go.Ground.phase }, { on := 12, ground := Go.Ground.phase }, { on := 13, ground := Go.Ground.phase }, { on := 14, ground := Go.Ground.phase }, { on := 15, ground := Go.Ground.textOnly Go.Departure.lateStores }, { on := 16, ground := Go.Ground.phase }, { on := 17, ground := Go.Ground.phase }, { on := 18, ground := Go.Ground.phase }, { on := 19, ground := Go.Ground.phase }], guard := none }) (v := .string { data := #[] }) rfl (by kernel_rfl) (by kernel_rfl) (by kernel_rfl) (fun _ _ _ h => h) (Or.inl ⟨by rfl, fun w' hSw => ?_⟩) (by assumption) ?_
                  · (try dsimp only at hSw); go_simp
                  (try simp only [Act.put]); (try simp only [List.setIfInBounds_toArray]); (try simp only [List.set_cons_succ]); (try simp only [List.set_cons_zero])
                  refine wpAnyH_take (i := 21) (oi := { dst := some 16, op := Go.Op.assign (Go.Operand.tmp 53), type := 9, pos := _, after := #[{ on := 15, ground := Go.Ground.data }, { on := 20, ground := Go.Ground.chain }, { on := 0, ground := Go.Ground.phase }, { on := 1, ground := Go.Ground.phase }, { on := 2, ground := Go.Ground.phase }, { on := 3, ground := Go.Ground.phase }, { on := 4, ground := Go.Ground.phase }, { on := 5, ground := Go.Ground.phase }, { on := 6, ground := Go.Ground.phase }, { on := 7, ground := Go.Ground.phase }, { on := 8, ground := Go.Ground.phase }, { on := 9, ground := Go.Ground.phase }, { on := 10, ground := Go.Ground.phase }, { on := 11, ground := Go.Ground.phase }, { on := 12, ground := Go.Ground.phase }, { on := 13, ground := Go.Ground.phase }, { on := 14, ground := Go.Ground.phase }, { on := 15, ground := Go.Ground.phase }, { on := 16, ground := Go.Ground.phase }, { on := 17, ground := Go.Ground.phase }, { on := 18, ground := Go.Ground.phase }, { on := 19, ground := Go.Ground.phase }, { on := 20, ground := Go.Ground.phase }], guard := none }) (v := .string R4) rfl (by kernel_rfl) (by kernel_rfl) (by kernel_rfl) (fun _ _ _ h => h) (Or.inl ⟨by rfl, fun w' hSw => ?_⟩) (by assumption) ?_
                  · (try dsimp only at hSw); go_simp
                  (try simp only [Act.put]); (try simp only [List.setIfInBounds_toArray]); (try simp only [List.set_cons_succ]); (try simp only [List.set_cons_zero])
                  refine wpAnyH_done (by kernel_rfl) ?_ _
                  refine NoPanic.normal ?_
                  have BXF : Hid (Box ((v3.setCell ⟨w.heap.size, 0, none⟩ (.string R1)).setCell ⟨w.heap.size, 1, none⟩ (.bool R2)) w.heap.size 23 [.string R1, .bool R2]) := BXv3ss.out
                  have SBF := Hid.mk' e5
                  have HBF := Hid.mk' ((HBV.out.setCell (p := ⟨w.heap.size, 0, none⟩) (Nat.le_refl _) (.string R1)).setCell (p := ⟨w.heap.size, 1, none⟩) (Nat.le_refl _) (.bool R2))
                  have B3F : Hid (Box ((v3.setCell ⟨w.heap.size, 0, none⟩ (.string R1)).setCell ⟨w.heap.size, 1, none⟩ (.bool R2)) w3.heap.size 23 [.string ⟨#[]⟩, .bool false]) := (B3V.out.kept (setCell_other _ _ _ _ (by omega))).kept (setCell_other _ _ _ _ (by omega))
                  have HLF : Hid (OwnR ((v3.setCell ⟨w.heap.size, 0, none⟩ (.string R1)).setCell ⟨w.heap.size, 1, none⟩ (.bool R2)) w4.heap.size 9 1 (.slice al nl cl) nl (scells s.ls)) := HLV.out.keptAt fun g hg => by
                    have hg2 := (HLV.out.lt g hg).1
                    exact (setCell_other _ _ _ _ (by omega)).trans (setCell_other _ _ _ _ (by omega))
                  have zF : w4.heap.size ≤ ((v3.setCell ⟨w.heap.size, 0, none⟩ (.string R1)).setCell ⟨w.heap.size, 1, none⟩ (.bool R2)).heap.size := by simp [World.setCell]; omega
                  clear BXD HBD B3D HLD HBV B3V HLV BXv3ss e5
                  generalize ((v3.setCell ⟨w.heap.size, 0, none⟩ (.string R1)).setCell ⟨w.heap.size, 1, none⟩ (.bool R2)) = wE at *
                  go_wp2
                  go_roundg (T.length - (n + 1))
                  case measure => have := HG.out; omega
                  case rel => exact ⟨n + 1, by omega, Nat.le_refl _, by go_num, al, nl, cl, rfl, by rw [HN4.out], by rw [HN1l.out]; exact HNL.out, by rw [HN1l.out]; exact HLF.out, HN2.out _ BXF.out, SBF, B3F, HRM, HBF, zF⟩
                exact AllReadyH.nil
              exact AllReadyH.nil
            exact AllReadyH.nil
          exact AllReadyH.nil
        refine AllReadyH.cons (o := { dst := some 42, op := Go.Op.load 4 (Go.Operand.tmp 41), type := 4, pos := _, after := #[{ on := 2, ground := Go.Ground.data }], guard := none }) rfl (fun K hK => ?_) ?_
        · skip
          have c0 := BXD.out.cell (j := 0) rfl; have c1 := BXD.out.cell (j := 1) rfl
          go_simp
          refine hK.out _ _ hE (fun hHeld => ?_)
          clear hK K
          (try simp only [Act.put]); (try simp only [List.setIfInBounds_toArray]); (try simp only [List.set_cons_succ]); (try simp only [List.set_cons_zero])
          refine wpAnyH_ready (rs := [1]) (by kernel_rfl) (by simp) ?_
          refine AllReadyH.cons (o := { dst := some 40, op := Go.Op.load 9 (Go.Operand.tmp 39), type := 9, pos := _, after := #[{ on := 0, ground := Go.Ground.data }], guard := none }) rfl (fun K hK => ?_) ?_
          · skip
            have c0 := BXD.out.cell (j := 0) rfl; have c1 := BXD.out.cell (j := 1) rfl
            go_simp
            refine hK.out _ _ hE (fun hHeld => ?_)
            clear hK K
            (try simp only [Act.put]); (try simp only [List.setIfInBounds_toArray]); (try simp only [List.set_cons_succ]); (try simp only [List.set_cons_zero])
            refine wpAnyH_ready (rs := [10]) (by kernel_rfl) (by simp) ?_
            refine AllReadyH.cons (o := { dst := some 49, op := Go.Op.call { callee := Go.Callee.value (Go.Operand.func 29), args := #[Go.Operand.tmp 40, Go.Operand.tmp 42, Go.Operand.tmp 43, Go.Operand.tmp 44, Go.Operand.tmp 48], argTypes := #[9, 4, 26, 30, 3] }, type := 66, pos := _, after := #[{ on := 1, ground := Go.Ground.data }, { on := 3, ground := Go.Ground.data }, { on := 4, ground := Go.Ground.data }, { on := 5, ground := Go.Ground.data }, { on := 9, ground := Go.Ground.data }], guard := none }) rfl (fun K hK => ?_) ?_
            · skip
              go_simp
              refine (HTP.out _).mono ?_
              rintro e v8 ⟨rfl, hbv8⟩
              have e8 := SB.later hE hbv8
              have BXv8 := Hid.mk' (BXD.out.later hbv8)
              have HBV := Hid.mk' (HBD.out.trans (Below.mono hbv8 HBD.out.size))
              have B3V := Hid.mk' (B3D.out.later hbv8)
              have HLV := Hid.mk' (keptBy HLD.out hbv8)
              have zV : wr.heap.size ≤ v8.heap.size := hbv8.size
              clear hbv8
              go_wp2_with fail
              refine hK.out _ _ e8 (fun hHeld => ?_)
              clear hK K
              (try simp only [Act.put]); (try simp only [List.setIfInBounds_toArray]); (try simp only [List.set_cons_succ]); (try simp only [List.set_cons_zero])
              refine wpAnyH_take (i := 11) (oi := { dst := some 38, op := Go.Op.move (Go.Operand.tmp 49), type := 66, pos := _, after := #[{ on := 10, ground := Go.Ground.data }], guard := none }) (v := .tuple #[.string R1, .bool R2, .string { data := #[] }, .string R4]) rfl (by kernel_rfl) (by kernel_rfl) (by kernel_rfl) (fun _ _ _ h => h) (Or.inl ⟨by rfl, fun w' hSw => ?_⟩) (by assumption) ?_
              · (try dsimp only at hSw); go_simp
              (try simp only [Act.put]); (try simp only [List.setIfInBounds_toArray]); (try simp only [List.set_cons_succ]); (try simp only [List.set_cons_zero])
              refine wpAnyH_take (i := 12) (oi := { dst := some 50, op := Go.Op.extract (Go.Operand.tmp 38) 0, type := 9, pos := _, after := #[{ on := 11, ground := Go.Ground.data }], guard := none }) (v := .string R1) rfl (by kernel_rfl) (by kernel_rfl) (by kernel_rfl) (fun _ _ _ h => h) (Or.inl ⟨by rfl, fun w' hSw => ?_⟩) (by assumption) ?_
              · (try dsimp only at hSw); go_simp
              (try simp only [Act.put]); (try simp only [List.setIfInBounds_toArray]); (try simp only [List.set_cons_succ]); (try simp only [List.set_cons_zero])
              refine wpAnyH_take (i := 13) (oi := { dst := some 51, op := Go.Op.extract (Go.Operand.tmp 38) 1, type := 4, pos := _, after := #[{ on := 11, ground := Go.Ground.data }, { on := 17, ground := Go.Ground.gcOnly Go.Departure.lateStores }], guard := none }) (v := .bool R2) rfl (by kernel_rfl) (by kernel_rfl) (by kernel_rfl) (fun _ _ _ h => h) (Or.inl ⟨by rfl, fun w' hSw => ?_⟩) (by assumption) ?_
              · (try dsimp only at hSw); go_simp
              (try simp only [Act.put]); (try simp only [List.setIfInBounds_toArray]); (try simp only [List.set_cons_succ]); (try simp only [List.set_cons_zero])
              refine wpAnyH_take (i := 14) (oi := { dst := some 52, op := Go.Op.extract (Go.Operand.tmp 38) 2, type := 9, pos := _, after := #[{ on := 11, ground := Go.Ground.data }, { on := 19, ground := Go.Ground.gcOnly Go.Departure.lateStores }], guard := none }) (v := .string { data := #[] }) rfl (by kernel_rfl) (by kernel_rfl) (by kernel_rfl) (fun _ _ _ h => h) (Or.inl ⟨by rfl, fun w' hSw => ?_⟩) (by assumption) ?_
              · (try dsimp only at hSw); go_simp
              (try simp only [Act.put]); (try simp only [List.setIfInBounds_toArray]); (try simp only [List.set_cons_succ]); (try simp only [List.set_cons_zero])
              refine wpAnyH_take (i := 15) (oi := { dst := some 53, op := Go.Op.extract (Go.Operand.tmp 38) 3, type := 9, pos := _, after := #[{ on := 11, ground := Go.Ground.data }, { on := 20, ground := Go.Ground.gcOnly Go.Departure.lateStores }], guard := none }) (v := .string R4) rfl (by kernel_rfl) (by kernel_rfl) (by kernel_rfl) (fun _ _ _ h => h) (Or.inl ⟨by rfl, fun w' hSw => ?_⟩) (by assumption) ?_
              · (try dsimp only at hSw); go_simp
              (try simp only [Act.put]); (try simp only [List.setIfInBounds_toArray]); (try simp only [List.set_cons_succ]); (try simp only [List.set_cons_zero])
              refine wpAnyH_take (i := 16) (oi := { dst := some 54, op := Go.Op.fieldAddr 23 (Go.Operand.tmp 4) 0, type := 0, pos := _, after := #[{ on := 0, ground := Go.Ground.phase }, { on := 1, ground := Go.Ground.phase }, { on := 2, ground := Go.Ground.phase }, { on := 3, ground := Go.Ground.phase }, { on := 4, ground := Go.Ground.phase }, { on := 5, ground := Go.Ground.phase }, { on := 6, ground := Go.Ground.phase }, { on := 7, ground := Go.Ground.phase }, { on := 8, ground := Go.Ground.phase }, { on := 9, ground := Go.Ground.phase }, { on := 10, ground := Go.Ground.phase }, { on := 11, ground := Go.Ground.phase }, { on := 12, ground := Go.Ground.phase }, { on := 13, ground := Go.Ground.textOnly Go.Departure.lateStores }, { on := 14, ground := Go.Ground.textOnly Go.Departure.lateStores }, { on := 15, ground := Go.Ground.textOnly Go.Departure.lateStores }], guard := none }) (v := .pointer (some ⟨w.heap.size, 0, none⟩)) rfl (by kernel_rfl) (by kernel_rfl) (by kernel_rfl) (fun _ _ _ h => h) (Or.inl ⟨by rfl, fun w' hSw => ?_⟩) (by assumption) ?_
              · (try dsimp only at hSw); go_simp
              (try simp only [Act.put]); (try simp only [List.setIfInBounds_toArray]); (try simp only [List.set_cons_succ]); (try simp only [List.set_cons_zero])
              refine wpAnyH_ready (rs := [17]) (by kernel_rfl) (by simp) ?_
              refine AllReadyH.cons (o := { dst := none, op := Go.Op.store 9 (Go.Operand.tmp 54) (Go.Operand.tmp 50), type := 0, pos := _, after := #[{ on := 16, ground := Go.Ground.data }, { on := 12, ground := Go.Ground.data }, { on := 10, ground := Go.Ground.chain }, { on := 0, ground := Go.Ground.phase }, { on := 1, ground := Go.Ground.phase }, { on := 2, ground := Go.Ground.phase }, { on := 3, ground := Go.Ground.phase }, { on := 4, ground := Go.Ground.phase }, { on := 5, ground := Go.Ground.phase }, { on := 6, ground := Go.Ground.phase }, { on := 7, ground := Go.Ground.phase }, { on := 8, ground := Go.Ground.phase }, { on := 9, ground := Go.Ground.phase }, { on := 10, ground := Go.Ground.phase }, { on := 11, ground := Go.Ground.phase }, { on := 12, ground := Go.Ground.phase }, { on := 13, ground := Go.Ground.textOnly Go.Departure.lateStores }, { on := 14, ground := Go.Ground.textOnly Go.Departure.lateStores }, { on := 15, ground := Go.Ground.textOnly Go.Departure.lateStores }], guard := none }) rfl (fun K hK => ?_) ?_
              · skip
                have c0 := BXv8.out.cell (j := 0) rfl
                have c1 := BXv8.out.cell (j := 1) rfl
                have f0 := BXv8.out.frozen 0
                go_simp
                have e9 : SB w1.heap.size w2.heap.size l m (v8.setCell ⟨w.heap.size, 0, none⟩ (.string R1)) := SB.set e8 _ _ _ (by omega) (by omega)
                have BXv8s := Hid.mk' (BXv8.out.setCell 0 (.string R1))
                clear c0 c1 f0
                refine hK.out _ _ e9 (fun hHeld => ?_)
                clear hK K
                (try simp only [Act.put]); (try simp only [List.setIfInBounds_toArray]); (try simp only [List.set_cons_succ]); (try simp only [List.set_cons_zero])
                refine wpAnyH_take (i := 18) (oi := { dst := some 55, op := Go.Op.fieldAddr 23 (Go.Operand.tmp 4) 1, type := 0, pos := _, after := #[{ on := 0, ground := Go.Ground.phase }, { on := 1, ground := Go.Ground.phase }, { on := 2, ground := Go.Ground.phase }, { on := 3, ground := Go.Ground.phase }, { on := 4, ground := Go.Ground.phase }, { on := 5, ground := Go.Ground.phase }, { on := 6, ground := Go.Ground.phase }, { on := 7, ground := Go.Ground.phase }, { on := 8, ground := Go.Ground.phase }, { on := 9, ground := Go.Ground.phase }, { on := 10, ground := Go.Ground.phase }, { on := 11, ground := Go.Ground.phase }, { on := 12, ground := Go.Ground.phase }, { on := 13, ground := Go.Ground.phase }, { on := 14, ground := Go.Ground.textOnly Go.Departure.lateStores }, { on := 15, ground := Go.Ground.textOnly Go.Departure.lateStores }, { on := 16, ground := Go.Ground.phase }, { on := 17, ground := Go.Ground.phase }], guard := none }) (v := .pointer (some ⟨w.heap.size, 1, none⟩)) rfl (by kernel_rfl) (by kernel_rfl) (by kernel_rfl) (fun _ _ _ h => h) (Or.inl ⟨by rfl, fun w' hSw => ?_⟩) (by assumption) ?_
                · (try dsimp only at hSw); go_simp
                (try simp only [Act.put]); (try simp only [List.setIfInBounds_toArray]); (try simp only [List.set_cons_succ]); (try simp only [List.set_cons_zero])
                refine wpAnyH_ready (rs := [19]) (by kernel_rfl) (by simp) ?_
                refine AllReadyH.cons (o := { dst := none, op := Go.Op.store 4 (Go.Operand.tmp 55) (Go.Operand.tmp 51), type := 0, pos := _, after := #[{ on := 18, ground := Go.Ground.data }, { on := 13, ground := Go.Ground.data }, { on := 17, ground := Go.Ground.chain }, { on := 0, ground := Go.Ground.phase }, { on := 1, ground := Go.Ground.phase }, { on := 2, ground := Go.Ground.phase }, { on := 3, ground := Go.Ground.phase }, { on := 4, ground := Go.Ground.phase }, { on := 5, ground := Go.Ground.phase }, { on := 6, ground := Go.Ground.phase }, { on := 7, ground := Go.Ground.phase }, { on := 8, ground := Go.Ground.phase }, { on := 9, ground := Go.Ground.phase }, { on := 10, ground := Go.Ground.phase }, { on := 11, ground := Go.Ground.phase }, { on := 12, ground := Go.Ground.phase }, { on := 13, ground := Go.Ground.phase }, { on := 14, ground := Go.Ground.textOnly Go.Departure.lateStores }, { on := 15, ground := Go.Ground.textOnly Go.Departure.lateStores }, { on := 16, ground := Go.Ground.phase }, { on := 17, ground := Go.Ground.phase }], guard := none }) rfl (fun K hK => ?_) ?_
                · skip
                  have c0 := BXv8s.out.cell (j := 0) rfl
                  have c1 := BXv8s.out.cell (j := 1) rfl
                  have f0 := BXv8s.out.frozen 1
                  go_simp
                  have e10 : SB w1.heap.size w2.heap.size l m ((v8.setCell ⟨w.heap.size, 0, none⟩ (.string R1)).setCell ⟨w.heap.size, 1, none⟩ (.bool R2)) := SB.set e9 _ _ _ (by omega) (by omega)
                  have BXv8ss := Hid.mk' (BXv8s.out.setCell 1 (.bool R2))
                  clear c0 c1 f0
                  refine hK.out _ _ e10 (fun hHeld => ?_)
                  clear hK K
                  (try simp only [Act.put]); (try simp only [List.setIfInBounds_toArray]); (try simp only [List.set_cons_succ]); (try simp only [List.set_cons_zero])
                  refine wpAnyH_take (i := 20) (oi := { dst := some 15, op := Go.Op.assign (Go.Operand.tmp 52), type := 9, pos := _, after := #[{ on := 14, ground := Go.Ground.data }, { on := 19, ground := Go.Ground.chain }, { on := 0, ground := Go.Ground.phase }, { on := 1, ground := Go.Ground.phase }, { on := 2, ground := Go.Ground.phase }, { on := 3, ground := Go.Ground.phase }, { on := 4, ground := Go.Ground.phase }, { on := 5, ground := Go.Ground.phase }, { on := 6, ground := Go.Ground.phase }, { on := 7, ground := Go.Ground.phase }, { on := 8, ground := Go.Ground.phase }, { on := 9, ground := Go.Ground.phase }, { on := 10, ground := Go.Ground.phase }, { on := 11, ground := Go.Ground.phase }, { on := 12, ground := Go.Ground.phase }, { on := 13, ground := Go.Ground.phase }, { on := 14, ground := Go.Ground.phase }, { on := 15, ground := Go.Ground.textOnly Go.Departure.lateStores }, { on := 16, ground := Go.Ground.phase }, { on := 17, ground := Go.Ground.phase }, { on := 18, ground := Go.Ground.phase }, { on := 19, ground := Go.Ground.phase }], guard := none }) (v := .string { data := #[] }) rfl (by kernel_rfl) (by kernel_rfl) (by kernel_rfl) (fun _ _ _ h => h) (Or.inl ⟨by rfl, fun w' hSw => ?_⟩) (by assumption) ?_
                  · (try dsimp only at hSw); go_simp
                  (try simp only [Act.put]); (try simp only [List.setIfInBounds_toArray]); (try simp only [List.set_cons_succ]); (try simp only [List.set_cons_zero])
                  refine wpAnyH_take (i := 21) (oi := { dst := some 16, op := Go.Op.assign (Go.Operand.tmp 53), type := 9, pos := _, after := #[{ on := 15, ground := Go.Ground.data }, { on := 20, ground := Go.Ground.chain }, { on := 0, ground := Go.Ground.phase }, { on := 1, ground := Go.Ground.phase }, { on := 2, ground := Go.Ground.phase }, { on := 3, ground := Go.Ground.phase }, { on := 4, ground := Go.Ground.phase }, { on := 5, ground := Go.Ground.phase }, { on := 6, ground := Go.Ground.phase }, { on := 7, ground := Go.Ground.phase }, { on := 8, ground := Go.Ground.phase }, { on := 9, ground := Go.Ground.phase }, { on := 10, ground := Go.Ground.phase }, { on := 11, ground := Go.Ground.phase }, { on := 12, ground := Go.Ground.phase }, { on := 13, ground := Go.Ground.phase }, { on := 14, ground := Go.Ground.phase }, { on := 15, ground := Go.Ground.phase }, { on := 16, ground := Go.Ground.phase }, { on := 17, ground := Go.Ground.phase }, { on := 18, ground := Go.Ground.phase }, { on := 19, ground := Go.Ground.phase }, { on := 20, ground := Go.Ground.phase }], guard := none }) (v := .string R4) rfl (by kernel_rfl) (by kernel_rfl) (by kernel_rfl) (fun _ _ _ h => h) (Or.inl ⟨by rfl, fun w' hSw => ?_⟩) (by assumption) ?_
                  · (try dsimp only at hSw); go_simp
                  (try simp only [Act.put]); (try simp only [List.setIfInBounds_toArray]); (try simp only [List.set_cons_succ]); (try simp only [List.set_cons_zero])
                  refine wpAnyH_done (by kernel_rfl) ?_ _
                  refine NoPanic.normal ?_
                  have BXF : Hid (Box ((v8.setCell ⟨w.heap.size, 0, none⟩ (.string R1)).setCell ⟨w.heap.size, 1, none⟩ (.bool R2)) w.heap.size 23 [.string R1, .bool R2]) := BXv8ss.out
                  have SBF := Hid.mk' e10
                  have HBF := Hid.mk' ((HBV.out.setCell (p := ⟨w.heap.size, 0, none⟩) (Nat.le_refl _) (.string R1)).setCell (p := ⟨w.heap.size, 1, none⟩) (Nat.le_refl _) (.bool R2))
                  have B3F : Hid (Box ((v8.setCell ⟨w.heap.size, 0, none⟩ (.string R1)).setCell ⟨w.heap.size, 1, none⟩ (.bool R2)) w3.heap.size 23 [.string ⟨#[]⟩, .bool false]) := (B3V.out.kept (setCell_other _ _ _ _ (by omega))).kept (setCell_other _ _ _ _ (by omega))
                  have HLF : Hid (OwnR ((v8.setCell ⟨w.heap.size, 0, none⟩ (.string R1)).setCell ⟨w.heap.size, 1, none⟩ (.bool R2)) w4.heap.size 9 1 (.slice al nl cl) nl (scells s.ls)) := HLV.out.keptAt fun g hg => by
                    have hg2 := (HLV.out.lt g hg).1
                    exact (setCell_other _ _ _ _ (by omega)).trans (setCell_other _ _ _ _ (by omega))
                  have zF : w4.heap.size ≤ ((v8.setCell ⟨w.heap.size, 0, none⟩ (.string R1)).setCell ⟨w.heap.size, 1, none⟩ (.bool R2)).heap.size := by simp [World.setCell]; omega
                  clear BXD HBD B3D HLD HBV B3V HLV BXv8ss e10
                  generalize ((v8.setCell ⟨w.heap.size, 0, none⟩ (.string R1)).setCell ⟨w.heap.size, 1, none⟩ (.bool R2)) = wE at *
                  go_wp2
                  go_roundg (T.length - (n + 1))
                  case measure => have := HG.out; omega
                  case rel => exact ⟨n + 1, by omega, Nat.le_refl _, by go_num, al, nl, cl, rfl, by rw [HN4.out], by rw [HN1l.out]; exact HNL.out, by rw [HN1l.out]; exact HLF.out, HN2.out _ BXF.out, SBF, B3F, HRM, HBF, zF⟩
                exact AllReadyH.nil
              exact AllReadyH.nil
            exact AllReadyH.nil
          exact AllReadyH.nil
        exact AllReadyH.nil
      · rw [hs1] at HN1 HTP
        rw [List.flatten_cons, List.flatten_nil, List.append_nil] at HTP
        have HN1l : Hid ((runS (KK k M) ⟨B, q, [], []⟩ (T.take (n + 1))).ls = s.ls ++ [x]) := HN1
        have hne : (bs x).toList.isEmpty = false := by
          rw [bs_list]
          cases x with
          | nil => exact absurd rfl hx
          | cons _ _ => rfl
        have hne2 : ((bs x).toList == []) = false := by
          rw [bs_list]
          cases x with
          | nil => exact absurd rfl hx
          | cons _ _ => rfl
        have HR3x : Hid (bs x = bs x) := rfl
        clear HN1 HX1 hs1 hx HR3x
        generalize hR1 : bs o.ed.buf = R1 at *
        generalize hR2 : o.ed.q = R2 at *
        generalize hR4 : bs o.echo = R4 at *
        generalize hR3 : bs x = R3 at *
        have HR3 : Hid (R3 = bs x) := hR3.symm
        generalize hE4 : bs s.echo = E4 at *
        generalize bs s.buf = XB at *
        generalize s.q = qb at *
        clear hR1 hR2 hR4 hE4 hR3
        go_wp2_with fail
        refine wp_region_noPanic ?_
        refine wp_region_held_drew (S := SB w1.heap.size w2.heap.size l m) (by kernel_rfl) hE (fun hHeld => ?_)
        refine wpAnyH_take (i := 0) (oi := { dst := some 39, op := Go.Op.fieldAddr 23 (Go.Operand.tmp 4) 0, type := 0, pos := _, after := #[], guard := none }) (v := .pointer (some ⟨w.heap.size, 0, none⟩)) rfl (by kernel_rfl) (by kernel_rfl) (by kernel_rfl) (fun _ _ _ h => h) (Or.inl ⟨by rfl, fun w' hSw => ?_⟩) (by assumption) ?_
        · (try dsimp only at hSw); go_simp
        (try simp only [Act.put]); (try simp only [List.setIfInBounds_toArray]); (try simp only [List.set_cons_succ]); (try simp only [List.set_cons_zero])
        refine wpAnyH_take (i := 2) (oi := { dst := some 41, op := Go.Op.fieldAddr 23 (Go.Operand.tmp 4) 1, type := 0, pos := _, after := #[], guard := none }) (v := .pointer (some ⟨w.heap.size, 1, none⟩)) rfl (by kernel_rfl) (by kernel_rfl) (by kernel_rfl) (fun _ _ _ h => h) (Or.inl ⟨by rfl, fun w' hSw => ?_⟩) (by assumption) ?_
        · (try dsimp only at hSw); go_simp
        (try simp only [Act.put]); (try simp only [List.setIfInBounds_toArray]); (try simp only [List.set_cons_succ]); (try simp only [List.set_cons_zero])
        refine wpAnyH_take (i := 4) (oi := { dst := some 43, op := Go.Op.load 26 (Go.Operand.tmp 5), type := 26, pos := _, after := #[], guard := none }) (v := .agg l.toArray) rfl (by kernel_rfl) (by kernel_rfl) (by kernel_rfl) (fun _ _ _ h => h) (Or.inl ⟨by rfl, fun w' hSw => ?_⟩) (by assumption) ?_
        · exact (exec_ldK _ _ _ _ _ _ _ _ (hSw.1.lies0 HKL.out)).trans (congrArg (fun z : List Value => Result.ok (Next.value (.agg z.toArray)) w') (hSw.1.row0 HKL.out))
        (try simp only [Act.put]); (try simp only [List.setIfInBounds_toArray]); (try simp only [List.set_cons_succ]); (try simp only [List.set_cons_zero])
        refine wpAnyH_take (i := 5) (oi := { dst := some 44, op := Go.Op.load 30 (Go.Operand.tmp 6), type := 30, pos := _, after := #[], guard := none }) (v := .agg m.toArray) rfl (by kernel_rfl) (by kernel_rfl) (by kernel_rfl) (fun _ _ _ h => h) (Or.inl ⟨by rfl, fun w' hSw => ?_⟩) (by assumption) ?_
        · exact (exec_ldM _ _ _ _ _ _ _ _ (hSw.2.lies0 HML.out)).trans (congrArg (fun z : List Value => Result.ok (Next.value (.agg z.toArray)) w') (hSw.2.row0 HML.out))
        (try simp only [Act.put]); (try simp only [List.setIfInBounds_toArray]); (try simp only [List.set_cons_succ]); (try simp only [List.set_cons_zero])
        refine wpAnyH_take (i := 6) (oi := { dst := some 45, op := Go.Op.move (Go.Operand.tmp 3), type := 9, pos := _, after := #[], guard := none }) (v := .string T1) rfl (by kernel_rfl) (by kernel_rfl) (by kernel_rfl) (fun _ _ _ h => h) (Or.inl ⟨by rfl, fun w' hSw => ?_⟩) (by assumption) ?_
        · (try dsimp only at hSw); go_simp
        (try simp only [Act.put]); (try simp only [List.setIfInBounds_toArray]); (try simp only [List.set_cons_succ]); (try simp only [List.set_cons_zero])
        refine wpAnyH_take (i := 7) (oi := { dst := some 46, op := Go.Op.move (Go.Operand.tmp 14), type := 3, pos := _, after := #[], guard := none }) (v := .int .i64 (n : Int)) rfl (by kernel_rfl) (by kernel_rfl) (by kernel_rfl) (fun _ _ _ h => h) (Or.inl ⟨by rfl, fun w' hSw => ?_⟩) (by assumption) ?_
        · (try dsimp only at hSw); go_simp
        (try simp only [Act.put]); (try simp only [List.setIfInBounds_toArray]); (try simp only [List.set_cons_succ]); (try simp only [List.set_cons_zero])
        refine wpAnyH_take (i := 8) (oi := { dst := some 47, op := Go.Op.index 9 (Go.Operand.tmp 45) (Go.Operand.tmp 46), type := 5, pos := _, after := #[{ on := 6, ground := Go.Ground.data }, { on := 7, ground := Go.Ground.data }], guard := none }) (v := .int .u8 y) rfl (by kernel_rfl) (by kernel_rfl) (by kernel_rfl) (fun _ _ _ h => h) (Or.inl ⟨by rfl, fun w' hSw => ?_⟩) (by assumption) ?_
        · (try dsimp only at hSw); go_simp; exact HY.out
        (try simp only [Act.put]); (try simp only [List.setIfInBounds_toArray]); (try simp only [List.set_cons_succ]); (try simp only [List.set_cons_zero])
        refine wpAnyH_take (i := 9) (oi := { dst := some 48, op := Go.Op.convert 5 3 (Go.Operand.tmp 47), type := 3, pos := _, after := #[{ on := 8, ground := Go.Ground.data }], guard := none }) (v := .int .i64 y) rfl (by kernel_rfl) (by kernel_rfl) (by kernel_rfl) (fun _ _ _ h => h) (Or.inl ⟨by rfl, fun w' hSw => ?_⟩) (by assumption) ?_
        · (try dsimp only at hSw); go_simp; (try exact hwr)
        (try simp only [Act.put]); (try simp only [List.setIfInBounds_toArray]); (try simp only [List.set_cons_succ]); (try simp only [List.set_cons_zero])
        refine wpAnyH_ready (rs := [1, 3]) (by kernel_rfl) (by simp) ?_
        refine AllReadyH.cons (o := { dst := some 40, op := Go.Op.load 9 (Go.Operand.tmp 39), type := 9, pos := _, after := #[{ on := 0, ground := Go.Ground.data }], guard := none }) rfl (fun K hK => ?_) ?_
        · skip
          have c0 := BXD.out.cell (j := 0) rfl; have c1 := BXD.out.cell (j := 1) rfl
          go_simp
          refine hK.out _ _ hE (fun hHeld => ?_)
          clear hK K
          (try simp only [Act.put]); (try simp only [List.setIfInBounds_toArray]); (try simp only [List.set_cons_succ]); (try simp only [List.set_cons_zero])
          refine wpAnyH_ready (rs := [3]) (by kernel_rfl) (by simp) ?_
          refine AllReadyH.cons (o := { dst := some 42, op := Go.Op.load 4 (Go.Operand.tmp 41), type := 4, pos := _, after := #[{ on := 2, ground := Go.Ground.data }], guard := none }) rfl (fun K hK => ?_) ?_
          · skip
            have c0 := BXD.out.cell (j := 0) rfl; have c1 := BXD.out.cell (j := 1) rfl
            go_simp
            refine hK.out _ _ hE (fun hHeld => ?_)
            clear hK K
            (try simp only [Act.put]); (try simp only [List.setIfInBounds_toArray]); (try simp only [List.set_cons_succ]); (try simp only [List.set_cons_zero])
            refine wpAnyH_ready (rs := [10]) (by kernel_rfl) (by simp) ?_
            refine AllReadyH.cons (o := { dst := some 49, op := Go.Op.call { callee := Go.Callee.value (Go.Operand.func 29), args := #[Go.Operand.tmp 40, Go.Operand.tmp 42, Go.Operand.tmp 43, Go.Operand.tmp 44, Go.Operand.tmp 48], argTypes := #[9, 4, 26, 30, 3] }, type := 66, pos := _, after := #[{ on := 1, ground := Go.Ground.data }, { on := 3, ground := Go.Ground.data }, { on := 4, ground := Go.Ground.data }, { on := 5, ground := Go.Ground.data }, { on := 9, ground := Go.Ground.data }], guard := none }) rfl (fun K hK => ?_) ?_
            · skip
              go_simp
              refine (HTP.out _).mono ?_
              rintro e v3 ⟨rfl, hbv3⟩
              have e3 := SB.later hE hbv3
              have BXv3 := Hid.mk' (BXD.out.later hbv3)
              have HBV := Hid.mk' (HBD.out.trans (Below.mono hbv3 HBD.out.size))
              have B3V := Hid.mk' (B3D.out.later hbv3)
              have HLV := Hid.mk' (keptBy HLD.out hbv3)
              have zV : wr.heap.size ≤ v3.heap.size := hbv3.size
              clear hbv3
              go_wp2_with fail
              refine hK.out _ _ e3 (fun hHeld => ?_)
              clear hK K
              (try simp only [Act.put]); (try simp only [List.setIfInBounds_toArray]); (try simp only [List.set_cons_succ]); (try simp only [List.set_cons_zero])
              refine wpAnyH_take (i := 11) (oi := { dst := some 38, op := Go.Op.move (Go.Operand.tmp 49), type := 66, pos := _, after := #[{ on := 10, ground := Go.Ground.data }], guard := none }) (v := .tuple #[.string R1, .bool R2, .string R3, .string R4]) rfl (by kernel_rfl) (by kernel_rfl) (by kernel_rfl) (fun _ _ _ h => h) (Or.inl ⟨by rfl, fun w' hSw => ?_⟩) (by assumption) ?_
              · (try dsimp only at hSw); go_simp
              (try simp only [Act.put]); (try simp only [List.setIfInBounds_toArray]); (try simp only [List.set_cons_succ]); (try simp only [List.set_cons_zero])
              refine wpAnyH_take (i := 12) (oi := { dst := some 50, op := Go.Op.extract (Go.Operand.tmp 38) 0, type := 9, pos := _, after := #[{ on := 11, ground := Go.Ground.data }], guard := none }) (v := .string R1) rfl (by kernel_rfl) (by kernel_rfl) (by kernel_rfl) (fun _ _ _ h => h) (Or.inl ⟨by rfl, fun w' hSw => ?_⟩) (by assumption) ?_
              · (try dsimp only at hSw); go_simp
              (try simp only [Act.put]); (try simp only [List.setIfInBounds_toArray]); (try simp only [List.set_cons_succ]); (try simp only [List.set_cons_zero])
              refine wpAnyH_take (i := 13) (oi := { dst := some 51, op := Go.Op.extract (Go.Operand.tmp 38) 1, type := 4, pos := _, after := #[{ on := 11, ground := Go.Ground.data }, { on := 17, ground := Go.Ground.gcOnly Go.Departure.lateStores }], guard := none }) (v := .bool R2) rfl (by kernel_rfl) (by kernel_rfl) (by kernel_rfl) (fun _ _ _ h => h) (Or.inl ⟨by rfl, fun w' hSw => ?_⟩) (by assumption) ?_
              · (try dsimp only at hSw); go_simp
              (try simp only [Act.put]); (try simp only [List.setIfInBounds_toArray]); (try simp only [List.set_cons_succ]); (try simp only [List.set_cons_zero])
              refine wpAnyH_take (i := 14) (oi := { dst := some 52, op := Go.Op.extract (Go.Operand.tmp 38) 2, type := 9, pos := _, after := #[{ on := 11, ground := Go.Ground.data }, { on := 19, ground := Go.Ground.gcOnly Go.Departure.lateStores }], guard := none }) (v := .string R3) rfl (by kernel_rfl) (by kernel_rfl) (by kernel_rfl) (fun _ _ _ h => h) (Or.inl ⟨by rfl, fun w' hSw => ?_⟩) (by assumption) ?_
              · (try dsimp only at hSw); go_simp
              (try simp only [Act.put]); (try simp only [List.setIfInBounds_toArray]); (try simp only [List.set_cons_succ]); (try simp only [List.set_cons_zero])
              refine wpAnyH_take (i := 15) (oi := { dst := some 53, op := Go.Op.extract (Go.Operand.tmp 38) 3, type := 9, pos := _, after := #[{ on := 11, ground := Go.Ground.data }, { on := 20, ground := Go.Ground.gcOnly Go.Departure.lateStores }], guard := none }) (v := .string R4) rfl (by kernel_rfl) (by kernel_rfl) (by kernel_rfl) (fun _ _ _ h => h) (Or.inl ⟨by rfl, fun w' hSw => ?_⟩) (by assumption) ?_
              · (try dsimp only at hSw); go_simp
              (try simp only [Act.put]); (try simp only [List.setIfInBounds_toArray]); (try simp only [List.set_cons_succ]); (try simp only [List.set_cons_zero])
              refine wpAnyH_take (i := 16) (oi := { dst := some 54, op := Go.Op.fieldAddr 23 (Go.Operand.tmp 4) 0, type := 0, pos := _, after := #[{ on := 0, ground := Go.Ground.phase }, { on := 1, ground := Go.Ground.phase }, { on := 2, ground := Go.Ground.phase }, { on := 3, ground := Go.Ground.phase }, { on := 4, ground := Go.Ground.phase }, { on := 5, ground := Go.Ground.phase }, { on := 6, ground := Go.Ground.phase }, { on := 7, ground := Go.Ground.phase }, { on := 8, ground := Go.Ground.phase }, { on := 9, ground := Go.Ground.phase }, { on := 10, ground := Go.Ground.phase }, { on := 11, ground := Go.Ground.phase }, { on := 12, ground := Go.Ground.phase }, { on := 13, ground := Go.Ground.textOnly Go.Departure.lateStores }, { on := 14, ground := Go.Ground.textOnly Go.Departure.lateStores }, { on := 15, ground := Go.Ground.textOnly Go.Departure.lateStores }], guard := none }) (v := .pointer (some ⟨w.heap.size, 0, none⟩)) rfl (by kernel_rfl) (by kernel_rfl) (by kernel_rfl) (fun _ _ _ h => h) (Or.inl ⟨by rfl, fun w' hSw => ?_⟩) (by assumption) ?_
              · (try dsimp only at hSw); go_simp
              (try simp only [Act.put]); (try simp only [List.setIfInBounds_toArray]); (try simp only [List.set_cons_succ]); (try simp only [List.set_cons_zero])
              refine wpAnyH_ready (rs := [17]) (by kernel_rfl) (by simp) ?_
              refine AllReadyH.cons (o := { dst := none, op := Go.Op.store 9 (Go.Operand.tmp 54) (Go.Operand.tmp 50), type := 0, pos := _, after := #[{ on := 16, ground := Go.Ground.data }, { on := 12, ground := Go.Ground.data }, { on := 10, ground := Go.Ground.chain }, { on := 0, ground := Go.Ground.phase }, { on := 1, ground := Go.Ground.phase }, { on := 2, ground := Go.Ground.phase }, { on := 3, ground := Go.Ground.phase }, { on := 4, ground := Go.Ground.phase }, { on := 5, ground := Go.Ground.phase }, { on := 6, ground := Go.Ground.phase }, { on := 7, ground := Go.Ground.phase }, { on := 8, ground := Go.Ground.phase }, { on := 9, ground := Go.Ground.phase }, { on := 10, ground := Go.Ground.phase }, { on := 11, ground := Go.Ground.phase }, { on := 12, ground := Go.Ground.phase }, { on := 13, ground := Go.Ground.textOnly Go.Departure.lateStores }, { on := 14, ground := Go.Ground.textOnly Go.Departure.lateStores }, { on := 15, ground := Go.Ground.textOnly Go.Departure.lateStores }], guard := none }) rfl (fun K hK => ?_) ?_
              · skip
                have c0 := BXv3.out.cell (j := 0) rfl
                have c1 := BXv3.out.cell (j := 1) rfl
                have f0 := BXv3.out.frozen 0
                go_simp
                have e4 : SB w1.heap.size w2.heap.size l m (v3.setCell ⟨w.heap.size, 0, none⟩ (.string R1)) := SB.set e3 _ _ _ (by omega) (by omega)
                have BXv3s := Hid.mk' (BXv3.out.setCell 0 (.string R1))
                clear c0 c1 f0
                refine hK.out _ _ e4 (fun hHeld => ?_)
                clear hK K
                (try simp only [Act.put]); (try simp only [List.setIfInBounds_toArray]); (try simp only [List.set_cons_succ]); (try simp only [List.set_cons_zero])
                refine wpAnyH_take (i := 18) (oi := { dst := some 55, op := Go.Op.fieldAddr 23 (Go.Operand.tmp 4) 1, type := 0, pos := _, after := #[{ on := 0, ground := Go.Ground.phase }, { on := 1, ground := Go.Ground.phase }, { on := 2, ground := Go.Ground.phase }, { on := 3, ground := Go.Ground.phase }, { on := 4, ground := Go.Ground.phase }, { on := 5, ground := Go.Ground.phase }, { on := 6, ground := Go.Ground.phase }, { on := 7, ground := Go.Ground.phase }, { on := 8, ground := Go.Ground.phase }, { on := 9, ground := Go.Ground.phase }, { on := 10, ground := Go.Ground.phase }, { on := 11, ground := Go.Ground.phase }, { on := 12, ground := Go.Ground.phase }, { on := 13, ground := Go.Ground.phase }, { on := 14, ground := Go.Ground.textOnly Go.Departure.lateStores }, { on := 15, ground := Go.Ground.textOnly Go.Departure.lateStores }, { on := 16, ground := Go.Ground.phase }, { on := 17, ground := Go.Ground.phase }], guard := none }) (v := .pointer (some ⟨w.heap.size, 1, none⟩)) rfl (by kernel_rfl) (by kernel_rfl) (by kernel_rfl) (fun _ _ _ h => h) (Or.inl ⟨by rfl, fun w' hSw => ?_⟩) (by assumption) ?_
                · (try dsimp only at hSw); go_simp
                (try simp only [Act.put]); (try simp only [List.setIfInBounds_toArray]); (try simp only [List.set_cons_succ]); (try simp only [List.set_cons_zero])
                refine wpAnyH_ready (rs := [19]) (by kernel_rfl) (by simp) ?_
                refine AllReadyH.cons (o := { dst := none, op := Go.Op.store 4 (Go.Operand.tmp 55) (Go.Operand.tmp 51), type := 0, pos := _, after := #[{ on := 18, ground := Go.Ground.data }, { on := 13, ground := Go.Ground.data }, { on := 17, ground := Go.Ground.chain }, { on := 0, ground := Go.Ground.phase }, { on := 1, ground := Go.Ground.phase }, { on := 2, ground := Go.Ground.phase }, { on := 3, ground := Go.Ground.phase }, { on := 4, ground := Go.Ground.phase }, { on := 5, ground := Go.Ground.phase }, { on := 6, ground := Go.Ground.phase }, { on := 7, ground := Go.Ground.phase }, { on := 8, ground := Go.Ground.phase }, { on := 9, ground := Go.Ground.phase }, { on := 10, ground := Go.Ground.phase }, { on := 11, ground := Go.Ground.phase }, { on := 12, ground := Go.Ground.phase }, { on := 13, ground := Go.Ground.phase }, { on := 14, ground := Go.Ground.textOnly Go.Departure.lateStores }, { on := 15, ground := Go.Ground.textOnly Go.Departure.lateStores }, { on := 16, ground := Go.Ground.phase }, { on := 17, ground := Go.Ground.phase }], guard := none }) rfl (fun K hK => ?_) ?_
                · skip
                  have c0 := BXv3s.out.cell (j := 0) rfl
                  have c1 := BXv3s.out.cell (j := 1) rfl
                  have f0 := BXv3s.out.frozen 1
                  go_simp
                  have e5 : SB w1.heap.size w2.heap.size l m ((v3.setCell ⟨w.heap.size, 0, none⟩ (.string R1)).setCell ⟨w.heap.size, 1, none⟩ (.bool R2)) := SB.set e4 _ _ _ (by omega) (by omega)
                  have BXv3ss := Hid.mk' (BXv3s.out.setCell 1 (.bool R2))
                  clear c0 c1 f0
                  refine hK.out _ _ e5 (fun hHeld => ?_)
                  clear hK K
                  (try simp only [Act.put]); (try simp only [List.setIfInBounds_toArray]); (try simp only [List.set_cons_succ]); (try simp only [List.set_cons_zero])
                  refine wpAnyH_take (i := 20) (oi := { dst := some 15, op := Go.Op.assign (Go.Operand.tmp 52), type := 9, pos := _, after := #[{ on := 14, ground := Go.Ground.data }, { on := 19, ground := Go.Ground.chain }, { on := 0, ground := Go.Ground.phase }, { on := 1, ground := Go.Ground.phase }, { on := 2, ground := Go.Ground.phase }, { on := 3, ground := Go.Ground.phase }, { on := 4, ground := Go.Ground.phase }, { on := 5, ground := Go.Ground.phase }, { on := 6, ground := Go.Ground.phase }, { on := 7, ground := Go.Ground.phase }, { on := 8, ground := Go.Ground.phase }, { on := 9, ground := Go.Ground.phase }, { on := 10, ground := Go.Ground.phase }, { on := 11, ground := Go.Ground.phase }, { on := 12, ground := Go.Ground.phase }, { on := 13, ground := Go.Ground.phase }, { on := 14, ground := Go.Ground.phase }, { on := 15, ground := Go.Ground.textOnly Go.Departure.lateStores }, { on := 16, ground := Go.Ground.phase }, { on := 17, ground := Go.Ground.phase }, { on := 18, ground := Go.Ground.phase }, { on := 19, ground := Go.Ground.phase }], guard := none }) (v := .string R3) rfl (by kernel_rfl) (by kernel_rfl) (by kernel_rfl) (fun _ _ _ h => h) (Or.inl ⟨by rfl, fun w' hSw => ?_⟩) (by assumption) ?_
                  · (try dsimp only at hSw); go_simp
                  (try simp only [Act.put]); (try simp only [List.setIfInBounds_toArray]); (try simp only [List.set_cons_succ]); (try simp only [List.set_cons_zero])
                  refine wpAnyH_take (i := 21) (oi := { dst := some 16, op := Go.Op.assign (Go.Operand.tmp 53), type := 9, pos := _, after := #[{ on := 15, ground := Go.Ground.data }, { on := 20, ground := Go.Ground.chain }, { on := 0, ground := Go.Ground.phase }, { on := 1, ground := Go.Ground.phase }, { on := 2, ground := Go.Ground.phase }, { on := 3, ground := Go.Ground.phase }, { on := 4, ground := Go.Ground.phase }, { on := 5, ground := Go.Ground.phase }, { on := 6, ground := Go.Ground.phase }, { on := 7, ground := Go.Ground.phase }, { on := 8, ground := Go.Ground.phase }, { on := 9, ground := Go.Ground.phase }, { on := 10, ground := Go.Ground.phase }, { on := 11, ground := Go.Ground.phase }, { on := 12, ground := Go.Ground.phase }, { on := 13, ground := Go.Ground.phase }, { on := 14, ground := Go.Ground.phase }, { on := 15, ground := Go.Ground.phase }, { on := 16, ground := Go.Ground.phase }, { on := 17, ground := Go.Ground.phase }, { on := 18, ground := Go.Ground.phase }, { on := 19, ground := Go.Ground.phase }, { on := 20, ground := Go.Ground.phase }], guard := none }) (v := .string R4) rfl (by kernel_rfl) (by kernel_rfl) (by kernel_rfl) (fun _ _ _ h => h) (Or.inl ⟨by rfl, fun w' hSw => ?_⟩) (by assumption) ?_
                  · (try dsimp only at hSw); go_simp
                  (try simp only [Act.put]); (try simp only [List.setIfInBounds_toArray]); (try simp only [List.set_cons_succ]); (try simp only [List.set_cons_zero])
                  refine wpAnyH_done (by kernel_rfl) ?_ _
                  refine NoPanic.normal ?_
                  have BXF : Hid (Box ((v3.setCell ⟨w.heap.size, 0, none⟩ (.string R1)).setCell ⟨w.heap.size, 1, none⟩ (.bool R2)) w.heap.size 23 [.string R1, .bool R2]) := BXv3ss.out
                  have SBF := Hid.mk' e5
                  have HBF := Hid.mk' ((HBV.out.setCell (p := ⟨w.heap.size, 0, none⟩) (Nat.le_refl _) (.string R1)).setCell (p := ⟨w.heap.size, 1, none⟩) (Nat.le_refl _) (.bool R2))
                  have B3F : Hid (Box ((v3.setCell ⟨w.heap.size, 0, none⟩ (.string R1)).setCell ⟨w.heap.size, 1, none⟩ (.bool R2)) w3.heap.size 23 [.string ⟨#[]⟩, .bool false]) := (B3V.out.kept (setCell_other _ _ _ _ (by omega))).kept (setCell_other _ _ _ _ (by omega))
                  have HLF : Hid (OwnR ((v3.setCell ⟨w.heap.size, 0, none⟩ (.string R1)).setCell ⟨w.heap.size, 1, none⟩ (.bool R2)) w4.heap.size 9 1 (.slice al nl cl) nl (scells s.ls)) := HLV.out.keptAt fun g hg => by
                    have hg2 := (HLV.out.lt g hg).1
                    exact (setCell_other _ _ _ _ (by omega)).trans (setCell_other _ _ _ _ (by omega))
                  have zF : w4.heap.size ≤ ((v3.setCell ⟨w.heap.size, 0, none⟩ (.string R1)).setCell ⟨w.heap.size, 1, none⟩ (.bool R2)).heap.size := by simp [World.setCell]; omega
                  clear BXD HBD B3D HLD HBV B3V HLV BXv3ss e5
                  generalize ((v3.setCell ⟨w.heap.size, 0, none⟩ (.string R1)).setCell ⟨w.heap.size, 1, none⟩ (.bool R2)) = wE at *
                  have HLA : Hid (OwnL (wE.alloc (.cells #[.string R3] 9)) w4.heap.size al cl s.ls) := by
                    have h : OwnR (wE.alloc (.cells #[.string R3] 9)) w4.heap.size 9 1 (.slice al nl cl) nl (scells s.ls) := HLF.out.keptAt fun g hg => Below.heap_alloc _ _ _ (HLF.out.lt g hg).2
                    unfold OwnL
                    rw [← HNL.out]
                    exact h
                  go_wp2_with (refine wpList_lines rfl _ _ rfl w4.heap.size al nl cl s.ls rfl HNL.out HLA.out (.slice (some ⟨wE.heap.size, 0, none⟩) 1 1) rfl 1 [x] (src_line wE _ R3 1 x HR3.out rfl) (by have := HRB.out; simp only [List.length_singleton]; omega) (by simp; omega) ?_)
                  intro al2 nl2 cl2 wG hn2 ho2 hb2
                  have HBA : Below wE.heap.size wE (wE.alloc (.cells #[.string R3] 9)) := (Below.refl _ _).alloc (Nat.le_refl _) _
                  have HBG := Hid.mk' (hb2 w4.heap.size wE (Nat.le_refl _) (Below.mono HBA zF))
                  have BXG := Hid.mk' (BXF.out.below HBG.out (by omega))
                  have SBG : Hid (SB w1.heap.size w2.heap.size l m wG) := ⟨SBF.out.1.below HBG.out (by omega), SBF.out.2.below HBG.out (by omega)⟩
                  have B3G := Hid.mk' (B3F.out.below HBG.out (by omega))
                  have HFG := Hid.mk' (HBF.out.trans (Below.mono HBG.out (by omega)))
                  have zG : w4.heap.size ≤ wG.heap.size := Nat.le_trans zF HBG.out.size
                  clear hb2 HBA BXF SBF B3F HBF HLF HLA HBG
                  go_wp2
                  go_roundg (T.length - (n + 1))
                  case measure => have := HG.out; omega
                  case rel => exact ⟨n + 1, by omega, Nat.le_refl _, by go_num, al2, nl2, cl2, rfl, by rw [HN4.out], by rw [HN1l.out]; (first | exact hn2.out | (rw [List.length_append]; exact hn2.out)), by rw [HN1l.out]; exact ho2.out, HN2.out _ BXG.out, SBG, B3G, HRM, HFG, zG⟩
                exact AllReadyH.nil
              exact AllReadyH.nil
            exact AllReadyH.nil
          exact AllReadyH.nil
        refine AllReadyH.cons (o := { dst := some 42, op := Go.Op.load 4 (Go.Operand.tmp 41), type := 4, pos := _, after := #[{ on := 2, ground := Go.Ground.data }], guard := none }) rfl (fun K hK => ?_) ?_
        · skip
          have c0 := BXD.out.cell (j := 0) rfl; have c1 := BXD.out.cell (j := 1) rfl
          go_simp
          refine hK.out _ _ hE (fun hHeld => ?_)
          clear hK K
          (try simp only [Act.put]); (try simp only [List.setIfInBounds_toArray]); (try simp only [List.set_cons_succ]); (try simp only [List.set_cons_zero])
          refine wpAnyH_ready (rs := [1]) (by kernel_rfl) (by simp) ?_
          refine AllReadyH.cons (o := { dst := some 40, op := Go.Op.load 9 (Go.Operand.tmp 39), type := 9, pos := _, after := #[{ on := 0, ground := Go.Ground.data }], guard := none }) rfl (fun K hK => ?_) ?_
          · skip
            have c0 := BXD.out.cell (j := 0) rfl; have c1 := BXD.out.cell (j := 1) rfl
            go_simp
            refine hK.out _ _ hE (fun hHeld => ?_)
            clear hK K
            (try simp only [Act.put]); (try simp only [List.setIfInBounds_toArray]); (try simp only [List.set_cons_succ]); (try simp only [List.set_cons_zero])
            refine wpAnyH_ready (rs := [10]) (by kernel_rfl) (by simp) ?_
            refine AllReadyH.cons (o := { dst := some 49, op := Go.Op.call { callee := Go.Callee.value (Go.Operand.func 29), args := #[Go.Operand.tmp 40, Go.Operand.tmp 42, Go.Operand.tmp 43, Go.Operand.tmp 44, Go.Operand.tmp 48], argTypes := #[9, 4, 26, 30, 3] }, type := 66, pos := _, after := #[{ on := 1, ground := Go.Ground.data }, { on := 3, ground := Go.Ground.data }, { on := 4, ground := Go.Ground.data }, { on := 5, ground := Go.Ground.data }, { on := 9, ground := Go.Ground.data }], guard := none }) rfl (fun K hK => ?_) ?_
            · skip
              go_simp
              refine (HTP.out _).mono ?_
              rintro e v8 ⟨rfl, hbv8⟩
              have e8 := SB.later hE hbv8
              have BXv8 := Hid.mk' (BXD.out.later hbv8)
              have HBV := Hid.mk' (HBD.out.trans (Below.mono hbv8 HBD.out.size))
              have B3V := Hid.mk' (B3D.out.later hbv8)
              have HLV := Hid.mk' (keptBy HLD.out hbv8)
              have zV : wr.heap.size ≤ v8.heap.size := hbv8.size
              clear hbv8
              go_wp2_with fail
              refine hK.out _ _ e8 (fun hHeld => ?_)
              clear hK K
              (try simp only [Act.put]); (try simp only [List.setIfInBounds_toArray]); (try simp only [List.set_cons_succ]); (try simp only [List.set_cons_zero])
              refine wpAnyH_take (i := 11) (oi := { dst := some 38, op := Go.Op.move (Go.Operand.tmp 49), type := 66, pos := _, after := #[{ on := 10, ground := Go.Ground.data }], guard := none }) (v := .tuple #[.string R1, .bool R2, .string R3, .string R4]) rfl (by kernel_rfl) (by kernel_rfl) (by kernel_rfl) (fun _ _ _ h => h) (Or.inl ⟨by rfl, fun w' hSw => ?_⟩) (by assumption) ?_
              · (try dsimp only at hSw); go_simp
              (try simp only [Act.put]); (try simp only [List.setIfInBounds_toArray]); (try simp only [List.set_cons_succ]); (try simp only [List.set_cons_zero])
              refine wpAnyH_take (i := 12) (oi := { dst := some 50, op := Go.Op.extract (Go.Operand.tmp 38) 0, type := 9, pos := _, after := #[{ on := 11, ground := Go.Ground.data }], guard := none }) (v := .string R1) rfl (by kernel_rfl) (by kernel_rfl) (by kernel_rfl) (fun _ _ _ h => h) (Or.inl ⟨by rfl, fun w' hSw => ?_⟩) (by assumption) ?_
              · (try dsimp only at hSw); go_simp
              (try simp only [Act.put]); (try simp only [List.setIfInBounds_toArray]); (try simp only [List.set_cons_succ]); (try simp only [List.set_cons_zero])
              refine wpAnyH_take (i := 13) (oi := { dst := some 51, op := Go.Op.extract (Go.Operand.tmp 38) 1, type := 4, pos := _, after := #[{ on := 11, ground := Go.Ground.data }, { on := 17, ground := Go.Ground.gcOnly Go.Departure.lateStores }], guard := none }) (v := .bool R2) rfl (by kernel_rfl) (by kernel_rfl) (by kernel_rfl) (fun _ _ _ h => h) (Or.inl ⟨by rfl, fun w' hSw => ?_⟩) (by assumption) ?_
              · (try dsimp only at hSw); go_simp
              (try simp only [Act.put]); (try simp only [List.setIfInBounds_toArray]); (try simp only [List.set_cons_succ]); (try simp only [List.set_cons_zero])
              refine wpAnyH_take (i := 14) (oi := { dst := some 52, op := Go.Op.extract (Go.Operand.tmp 38) 2, type := 9, pos := _, after := #[{ on := 11, ground := Go.Ground.data }, { on := 19, ground := Go.Ground.gcOnly Go.Departure.lateStores }], guard := none }) (v := .string R3) rfl (by kernel_rfl) (by kernel_rfl) (by kernel_rfl) (fun _ _ _ h => h) (Or.inl ⟨by rfl, fun w' hSw => ?_⟩) (by assumption) ?_
              · (try dsimp only at hSw); go_simp
              (try simp only [Act.put]); (try simp only [List.setIfInBounds_toArray]); (try simp only [List.set_cons_succ]); (try simp only [List.set_cons_zero])
              refine wpAnyH_take (i := 15) (oi := { dst := some 53, op := Go.Op.extract (Go.Operand.tmp 38) 3, type := 9, pos := _, after := #[{ on := 11, ground := Go.Ground.data }, { on := 20, ground := Go.Ground.gcOnly Go.Departure.lateStores }], guard := none }) (v := .string R4) rfl (by kernel_rfl) (by kernel_rfl) (by kernel_rfl) (fun _ _ _ h => h) (Or.inl ⟨by rfl, fun w' hSw => ?_⟩) (by assumption) ?_
              · (try dsimp only at hSw); go_simp
              (try simp only [Act.put]); (try simp only [List.setIfInBounds_toArray]); (try simp only [List.set_cons_succ]); (try simp only [List.set_cons_zero])
              refine wpAnyH_take (i := 16) (oi := { dst := some 54, op := Go.Op.fieldAddr 23 (Go.Operand.tmp 4) 0, type := 0, pos := _, after := #[{ on := 0, ground := Go.Ground.phase }, { on := 1, ground := Go.Ground.phase }, { on := 2, ground := Go.Ground.phase }, { on := 3, ground := Go.Ground.phase }, { on := 4, ground := Go.Ground.phase }, { on := 5, ground := Go.Ground.phase }, { on := 6, ground := Go.Ground.phase }, { on := 7, ground := Go.Ground.phase }, { on := 8, ground := Go.Ground.phase }, { on := 9, ground := Go.Ground.phase }, { on := 10, ground := Go.Ground.phase }, { on := 11, ground := Go.Ground.phase }, { on := 12, ground := Go.Ground.phase }, { on := 13, ground := Go.Ground.textOnly Go.Departure.lateStores }, { on := 14, ground := Go.Ground.textOnly Go.Departure.lateStores }, { on := 15, ground := Go.Ground.textOnly Go.Departure.lateStores }], guard := none }) (v := .pointer (some ⟨w.heap.size, 0, none⟩)) rfl (by kernel_rfl) (by kernel_rfl) (by kernel_rfl) (fun _ _ _ h => h) (Or.inl ⟨by rfl, fun w' hSw => ?_⟩) (by assumption) ?_
              · (try dsimp only at hSw); go_simp
              (try simp only [Act.put]); (try simp only [List.setIfInBounds_toArray]); (try simp only [List.set_cons_succ]); (try simp only [List.set_cons_zero])
              refine wpAnyH_ready (rs := [17]) (by kernel_rfl) (by simp) ?_
              refine AllReadyH.cons (o := { dst := none, op := Go.Op.store 9 (Go.Operand.tmp 54) (Go.Operand.tmp 50), type := 0, pos := _, after := #[{ on := 16, ground := Go.Ground.data }, { on := 12, ground := Go.Ground.data }, { on := 10, ground := Go.Ground.chain }, { on := 0, ground := Go.Ground.phase }, { on := 1, ground := Go.Ground.phase }, { on := 2, ground := Go.Ground.phase }, { on := 3, ground := Go.Ground.phase }, { on := 4, ground := Go.Ground.phase }, { on := 5, ground := Go.Ground.phase }, { on := 6, ground := Go.Ground.phase }, { on := 7, ground := Go.Ground.phase }, { on := 8, ground := Go.Ground.phase }, { on := 9, ground := Go.Ground.phase }, { on := 10, ground := Go.Ground.phase }, { on := 11, ground := Go.Ground.phase }, { on := 12, ground := Go.Ground.phase }, { on := 13, ground := Go.Ground.textOnly Go.Departure.lateStores }, { on := 14, ground := Go.Ground.textOnly Go.Departure.lateStores }, { on := 15, ground := Go.Ground.textOnly Go.Departure.lateStores }], guard := none }) rfl (fun K hK => ?_) ?_
              · skip
                have c0 := BXv8.out.cell (j := 0) rfl
                have c1 := BXv8.out.cell (j := 1) rfl
                have f0 := BXv8.out.frozen 0
                go_simp
                have e9 : SB w1.heap.size w2.heap.size l m (v8.setCell ⟨w.heap.size, 0, none⟩ (.string R1)) := SB.set e8 _ _ _ (by omega) (by omega)
                have BXv8s := Hid.mk' (BXv8.out.setCell 0 (.string R1))
                clear c0 c1 f0
                refine hK.out _ _ e9 (fun hHeld => ?_)
                clear hK K
                (try simp only [Act.put]); (try simp only [List.setIfInBounds_toArray]); (try simp only [List.set_cons_succ]); (try simp only [List.set_cons_zero])
                refine wpAnyH_take (i := 18) (oi := { dst := some 55, op := Go.Op.fieldAddr 23 (Go.Operand.tmp 4) 1, type := 0, pos := _, after := #[{ on := 0, ground := Go.Ground.phase }, { on := 1, ground := Go.Ground.phase }, { on := 2, ground := Go.Ground.phase }, { on := 3, ground := Go.Ground.phase }, { on := 4, ground := Go.Ground.phase }, { on := 5, ground := Go.Ground.phase }, { on := 6, ground := Go.Ground.phase }, { on := 7, ground := Go.Ground.phase }, { on := 8, ground := Go.Ground.phase }, { on := 9, ground := Go.Ground.phase }, { on := 10, ground := Go.Ground.phase }, { on := 11, ground := Go.Ground.phase }, { on := 12, ground := Go.Ground.phase }, { on := 13, ground := Go.Ground.phase }, { on := 14, ground := Go.Ground.textOnly Go.Departure.lateStores }, { on := 15, ground := Go.Ground.textOnly Go.Departure.lateStores }, { on := 16, ground := Go.Ground.phase }, { on := 17, ground := Go.Ground.phase }], guard := none }) (v := .pointer (some ⟨w.heap.size, 1, none⟩)) rfl (by kernel_rfl) (by kernel_rfl) (by kernel_rfl) (fun _ _ _ h => h) (Or.inl ⟨by rfl, fun w' hSw => ?_⟩) (by assumption) ?_
                · (try dsimp only at hSw); go_simp
                (try simp only [Act.put]); (try simp only [List.setIfInBounds_toArray]); (try simp only [List.set_cons_succ]); (try simp only [List.set_cons_zero])
                refine wpAnyH_ready (rs := [19]) (by kernel_rfl) (by simp) ?_
                refine AllReadyH.cons (o := { dst := none, op := Go.Op.store 4 (Go.Operand.tmp 55) (Go.Operand.tmp 51), type := 0, pos := _, after := #[{ on := 18, ground := Go.Ground.data }, { on := 13, ground := Go.Ground.data }, { on := 17, ground := Go.Ground.chain }, { on := 0, ground := Go.Ground.phase }, { on := 1, ground := Go.Ground.phase }, { on := 2, ground := Go.Ground.phase }, { on := 3, ground := Go.Ground.phase }, { on := 4, ground := Go.Ground.phase }, { on := 5, ground := Go.Ground.phase }, { on := 6, ground := Go.Ground.phase }, { on := 7, ground := Go.Ground.phase }, { on := 8, ground := Go.Ground.phase }, { on := 9, ground := Go.Ground.phase }, { on := 10, ground := Go.Ground.phase }, { on := 11, ground := Go.Ground.phase }, { on := 12, ground := Go.Ground.phase }, { on := 13, ground := Go.Ground.phase }, { on := 14, ground := Go.Ground.textOnly Go.Departure.lateStores }, { on := 15, ground := Go.Ground.textOnly Go.Departure.lateStores }, { on := 16, ground := Go.Ground.phase }, { on := 17, ground := Go.Ground.phase }], guard := none }) rfl (fun K hK => ?_) ?_
                · skip
                  have c0 := BXv8s.out.cell (j := 0) rfl
                  have c1 := BXv8s.out.cell (j := 1) rfl
                  have f0 := BXv8s.out.frozen 1
                  go_simp
                  have e10 : SB w1.heap.size w2.heap.size l m ((v8.setCell ⟨w.heap.size, 0, none⟩ (.string R1)).setCell ⟨w.heap.size, 1, none⟩ (.bool R2)) := SB.set e9 _ _ _ (by omega) (by omega)
                  have BXv8ss := Hid.mk' (BXv8s.out.setCell 1 (.bool R2))
                  clear c0 c1 f0
                  refine hK.out _ _ e10 (fun hHeld => ?_)
                  clear hK K
                  (try simp only [Act.put]); (try simp only [List.setIfInBounds_toArray]); (try simp only [List.set_cons_succ]); (try simp only [List.set_cons_zero])
                  refine wpAnyH_take (i := 20) (oi := { dst := some 15, op := Go.Op.assign (Go.Operand.tmp 52), type := 9, pos := _, after := #[{ on := 14, ground := Go.Ground.data }, { on := 19, ground := Go.Ground.chain }, { on := 0, ground := Go.Ground.phase }, { on := 1, ground := Go.Ground.phase }, { on := 2, ground := Go.Ground.phase }, { on := 3, ground := Go.Ground.phase }, { on := 4, ground := Go.Ground.phase }, { on := 5, ground := Go.Ground.phase }, { on := 6, ground := Go.Ground.phase }, { on := 7, ground := Go.Ground.phase }, { on := 8, ground := Go.Ground.phase }, { on := 9, ground := Go.Ground.phase }, { on := 10, ground := Go.Ground.phase }, { on := 11, ground := Go.Ground.phase }, { on := 12, ground := Go.Ground.phase }, { on := 13, ground := Go.Ground.phase }, { on := 14, ground := Go.Ground.phase }, { on := 15, ground := Go.Ground.textOnly Go.Departure.lateStores }, { on := 16, ground := Go.Ground.phase }, { on := 17, ground := Go.Ground.phase }, { on := 18, ground := Go.Ground.phase }, { on := 19, ground := Go.Ground.phase }], guard := none }) (v := .string R3) rfl (by kernel_rfl) (by kernel_rfl) (by kernel_rfl) (fun _ _ _ h => h) (Or.inl ⟨by rfl, fun w' hSw => ?_⟩) (by assumption) ?_
                  · (try dsimp only at hSw); go_simp
                  (try simp only [Act.put]); (try simp only [List.setIfInBounds_toArray]); (try simp only [List.set_cons_succ]); (try simp only [List.set_cons_zero])
                  refine wpAnyH_take (i := 21) (oi := { dst := some 16, op := Go.Op.assign (Go.Operand.tmp 53), type := 9, pos := _, after := #[{ on := 15, ground := Go.Ground.data }, { on := 20, ground := Go.Ground.chain }, { on := 0, ground := Go.Ground.phase }, { on := 1, ground := Go.Ground.phase }, { on := 2, ground := Go.Ground.phase }, { on := 3, ground := Go.Ground.phase }, { on := 4, ground := Go.Ground.phase }, { on := 5, ground := Go.Ground.phase }, { on := 6, ground := Go.Ground.phase }, { on := 7, ground := Go.Ground.phase }, { on := 8, ground := Go.Ground.phase }, { on := 9, ground := Go.Ground.phase }, { on := 10, ground := Go.Ground.phase }, { on := 11, ground := Go.Ground.phase }, { on := 12, ground := Go.Ground.phase }, { on := 13, ground := Go.Ground.phase }, { on := 14, ground := Go.Ground.phase }, { on := 15, ground := Go.Ground.phase }, { on := 16, ground := Go.Ground.phase }, { on := 17, ground := Go.Ground.phase }, { on := 18, ground := Go.Ground.phase }, { on := 19, ground := Go.Ground.phase }, { on := 20, ground := Go.Ground.phase }], guard := none }) (v := .string R4) rfl (by kernel_rfl) (by kernel_rfl) (by kernel_rfl) (fun _ _ _ h => h) (Or.inl ⟨by rfl, fun w' hSw => ?_⟩) (by assumption) ?_
                  · (try dsimp only at hSw); go_simp
                  (try simp only [Act.put]); (try simp only [List.setIfInBounds_toArray]); (try simp only [List.set_cons_succ]); (try simp only [List.set_cons_zero])
                  refine wpAnyH_done (by kernel_rfl) ?_ _
                  refine NoPanic.normal ?_
                  have BXF : Hid (Box ((v8.setCell ⟨w.heap.size, 0, none⟩ (.string R1)).setCell ⟨w.heap.size, 1, none⟩ (.bool R2)) w.heap.size 23 [.string R1, .bool R2]) := BXv8ss.out
                  have SBF := Hid.mk' e10
                  have HBF := Hid.mk' ((HBV.out.setCell (p := ⟨w.heap.size, 0, none⟩) (Nat.le_refl _) (.string R1)).setCell (p := ⟨w.heap.size, 1, none⟩) (Nat.le_refl _) (.bool R2))
                  have B3F : Hid (Box ((v8.setCell ⟨w.heap.size, 0, none⟩ (.string R1)).setCell ⟨w.heap.size, 1, none⟩ (.bool R2)) w3.heap.size 23 [.string ⟨#[]⟩, .bool false]) := (B3V.out.kept (setCell_other _ _ _ _ (by omega))).kept (setCell_other _ _ _ _ (by omega))
                  have HLF : Hid (OwnR ((v8.setCell ⟨w.heap.size, 0, none⟩ (.string R1)).setCell ⟨w.heap.size, 1, none⟩ (.bool R2)) w4.heap.size 9 1 (.slice al nl cl) nl (scells s.ls)) := HLV.out.keptAt fun g hg => by
                    have hg2 := (HLV.out.lt g hg).1
                    exact (setCell_other _ _ _ _ (by omega)).trans (setCell_other _ _ _ _ (by omega))
                  have zF : w4.heap.size ≤ ((v8.setCell ⟨w.heap.size, 0, none⟩ (.string R1)).setCell ⟨w.heap.size, 1, none⟩ (.bool R2)).heap.size := by simp [World.setCell]; omega
                  clear BXD HBD B3D HLD HBV B3V HLV BXv8ss e10
                  generalize ((v8.setCell ⟨w.heap.size, 0, none⟩ (.string R1)).setCell ⟨w.heap.size, 1, none⟩ (.bool R2)) = wE at *
                  have HLA : Hid (OwnL (wE.alloc (.cells #[.string R3] 9)) w4.heap.size al cl s.ls) := by
                    have h : OwnR (wE.alloc (.cells #[.string R3] 9)) w4.heap.size 9 1 (.slice al nl cl) nl (scells s.ls) := HLF.out.keptAt fun g hg => Below.heap_alloc _ _ _ (HLF.out.lt g hg).2
                    unfold OwnL
                    rw [← HNL.out]
                    exact h
                  go_wp2_with (refine wpList_lines rfl _ _ rfl w4.heap.size al nl cl s.ls rfl HNL.out HLA.out (.slice (some ⟨wE.heap.size, 0, none⟩) 1 1) rfl 1 [x] (src_line wE _ R3 1 x HR3.out rfl) (by have := HRB.out; simp only [List.length_singleton]; omega) (by simp; omega) ?_)
                  intro al2 nl2 cl2 wG hn2 ho2 hb2
                  have HBA : Below wE.heap.size wE (wE.alloc (.cells #[.string R3] 9)) := (Below.refl _ _).alloc (Nat.le_refl _) _
                  have HBG := Hid.mk' (hb2 w4.heap.size wE (Nat.le_refl _) (Below.mono HBA zF))
                  have BXG := Hid.mk' (BXF.out.below HBG.out (by omega))
                  have SBG : Hid (SB w1.heap.size w2.heap.size l m wG) := ⟨SBF.out.1.below HBG.out (by omega), SBF.out.2.below HBG.out (by omega)⟩
                  have B3G := Hid.mk' (B3F.out.below HBG.out (by omega))
                  have HFG := Hid.mk' (HBF.out.trans (Below.mono HBG.out (by omega)))
                  have zG : w4.heap.size ≤ wG.heap.size := Nat.le_trans zF HBG.out.size
                  clear hb2 HBA BXF SBF B3F HBF HLF HLA HBG
                  go_wp2
                  go_roundg (T.length - (n + 1))
                  case measure => have := HG.out; omega
                  case rel => exact ⟨n + 1, by omega, Nat.le_refl _, by go_num, al2, nl2, cl2, rfl, by rw [HN4.out], by rw [HN1l.out]; (first | exact hn2.out | (rw [List.length_append]; exact hn2.out)), by rw [HN1l.out]; exact ho2.out, HN2.out _ BXG.out, SBG, B3G, HRM, HFG, zG⟩
                exact AllReadyH.nil
              exact AllReadyH.nil
            exact AllReadyH.nil
          exact AllReadyH.nil
        exact AllReadyH.nil
    · obtain rfl : n = T.length := by omega
      rw [HTL.out] at *
      have HSE : Hid ((Tryd.prog.info? 23).map (·.size) = some ([Value.string (bs (runS (KK k M) ⟨B, q, [], []⟩ T).buf), Value.bool (runS (KK k M) ⟨B, q, [], []⟩ T).q]).length) := sizeE
      clear HTY HRS HTT HGT HRm SBB
      generalize hsx : runS (KK k M) ⟨B, q, [], []⟩ T = sx at *
      have HSX := Hid.mk' hsx
      clear hsx
      generalize hx1 : bs sx.buf = x1 at *
      generalize hx2 : bs sx.echo = x2 at *
      go_wp2_with (first | (with_reducible refine wpList_load_box 23 23 [.string x1, .bool sx.q] w.heap.size _ Tryd.underlying23 rfl HSE.out BX.out rfl _ rfl rfl ?_) | (refine wpList_store_box 23 23 [.string ⟨#[]⟩, .bool false] [.string x1, .bool sx.q] w3.heap.size sizeE (edCells_one _ _) B3.out rfl rfl _ _ rfl rfl rfl ?_))
      intro w6 s6
      have HB6 := Hid.mk' (s6.below w.heap.size w (by omega) HB.out)
      have b6 := Hid.mk' s6.box
      have HL6 : Hid (OwnR w6 w4.heap.size 9 1 (.slice al nl cl) nl (scells sx.ls)) := HLO.out.keptAt fun g hg => by
        have hg2 := (HLO.out.lt g hg).1
        exact s6.other g (by omega)
      clear s6
      go_wp2
      refine ret_ed rfl 23 [.string x1, .bool sx.q] w3.heap.size rfl (.slice al nl cl) (.string x2) (.int .i64 0) rfl rfl rfl rfl b6.out rfl ?_
      rw [HSX.out]
      refine ⟨al, cl, ?_, ?_, HB6.out⟩
      · unfold RT EV edCells
        dsimp only
        rw [← HNL.out, hx1, hx2]
      · show OwnR _ _ _ _ _ sx.ls.length _
        rw [← HNL.out]
        exact own_base HL6.out (by omega)

/-- farref.Typing, whatever it is given, tells what line.Type tells -/
theorem Typing_any (k : List UInt8) (hk : k.length = 38) (M : List Nat) (hM : H.okW M) (B T : List UInt8) (q : Bool) (w : World) :
    Calls Tryd.prog 10 #[EV (bs B) q, K.KV k, H.MV M, .string (bs T)] w fun e w' => Typ w (typeT k M B q T) e w' := by
  by_cases hB : 1024 ≤ B.length
  · have hr : ref B.length k T.length = 2 := by unfold ref; rw [if_pos hB]
    have ht : typeT k M B q T = (⟨B, q, [], []⟩, ref B.length k T.length) := (typeT_form k M B T q).elim (fun h => absurd h.1 (by rw [hr]; decide)) (fun h => h.2)
    rw [ht]
    exact Typing_long k M B T q w hB hr
  · rcases chk_two k with hc | hc
    · by_cases hT : T.length ≤ 4096
      · have hr : ref B.length k T.length = 0 := ref_zero.2 ⟨by omega, hc, hT⟩
        have ht : typeT k M B q T = (runS (KK k M) ⟨B, q, [], []⟩ T, 0) := (typeT_form k M B T q).elim (fun h => h.2) (fun h => absurd hr h.1)
        rw [ht]
        exact Typing_ok k hk M hM B T q w hc (by omega) hT
      · have hr : ref B.length k T.length = 2 := by unfold ref; rw [if_neg hB, if_pos hc, if_pos (by omega)]
        have ht : typeT k M B q T = (⟨B, q, [], []⟩, ref B.length k T.length) := (typeT_form k M B T q).elim (fun h => absurd h.1 (by rw [hr]; decide)) (fun h => h.2)
        rw [ht]
        exact Typing_much k hk M B T q w hB hc (by omega) hr
    · have hr : ref B.length k T.length = 4 := by unfold ref; rw [if_neg hB, if_neg (by rw [hc]; decide), hc]
      have ht : typeT k M B q T = (⟨B, q, [], []⟩, ref B.length k T.length) := (typeT_form k M B T q).elim (fun h => absurd h.1 (by rw [hr]; decide)) (fun h => h.2)
      rw [ht]
      exact Typing_keys k hk M B T q w hB hc hr
end Go.Proofs.YtomgnnbcaficaaaDoor.L
