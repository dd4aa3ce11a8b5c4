/-
  Contract of slc.Take where it is heeded; conditions: Keys that are right, a multiple of three bytes, at most 300.
-/
import Derived.Test.YtfipmggdpigbkaaKTake
import Derived.Test.YtfipmggdpigbkaaKStep
namespace Go.Proofs.Ytfipmggdpigbkaa.K
open Go.RowKit Go.Lib Go.Proofs.Ytfipmggdpigbkaa Go.Proofs.Ytfipmggdpigbkaa.W Go.Proofs.Ytfipmggdpigbkaa.Q

/-- what the loop of Take keeps -/
def TS (w : World) (k s : List UInt8) (b4 : Nat) (top : Nat) (g : Nat) (s8 s9 : Value) (wr : World) : Prop :=
  ∃ (i : Nat) (K' S' : List UInt8), i ≤ s.length ∧ s.length - i ≤ g ∧ i % 3 = 0 ∧ s9 = .int .i64 (i : Int) ∧ Hid (run k (s.take i) = (K', S')) ∧ Hid (K'.length = 38) ∧ Hid (S'.length ≤ i) ∧ Hid (Box wr w.heap.size 24 (bcells K')) ∧ Hid (Box wr b4 24 (bcells noK)) ∧ Hid (OwnB wr top s8 S') ∧ Hid (Below w.heap.size w wr) ∧ top ≤ wr.heap.size

/-- a byte of a text is there -/
def InB (v u : Value) : Prop := ∃ (S : ByteArray) (n : Nat), v = .string S ∧ u = .int .i64 (n : Int) ∧ n < S.size
/-- .. and which it is -/
def byteAt (v u : Value) : Int :=
  match v, u with
  | .string S, .int _ i => ((S[i.toNat]?).getD 0).toNat
  | _, _ => 0
theorem exec_index (ρ : Operand → Value) (x y : Operand) (dst : Option Tmp) (t : TypeId) (pos : String) (af : Array Edge) (g : Option (Nat × Bool)) (w : World) (h : InB (ρ x) (ρ y)) :
    (execOp ρ { dst := dst, op := .index 9 x y, type := t, pos := pos, after := af, guard := g }).run Try.prog w = .ok (.value (.int .u8 (byteAt (ρ x) (ρ y)))) w := by
  obtain ⟨S, n, e1, e2, hn⟩ := h
  unfold execOp
  simp only [e1, e2, Sem.run_bind]
  rw [run_index_string (P := Try.prog) (w := w) 9 S .i64 n Try.underlying9, dif_pos ⟨by omega, by omega⟩]
  simp only [byteAt, Int.toNat_natCast, Result.andThen_ok]
  rw [getElem?_pos S n hn]
  rfl
attribute [local go_sem ↓] exec_loadT exec_storeT exec_loadK exec_storeK
def InBy (v u : Value) (x : Int) : Prop := InB v u ∧ byteAt v u = x
theorem exec_byte (ρ : Operand → Value) (x y : Operand) (dst : Option Tmp) (t : TypeId) (pos : String) (af : Array Edge) (g : Option (Nat × Bool)) (w : World) (n : Int) (h : InBy (ρ x) (ρ y) n) :
    (execOp ρ { dst := dst, op := .index 9 x y, type := t, pos := pos, after := af, guard := g }).run Try.prog w = .ok (.value (.int .u8 n)) w := by
  rw [exec_index ρ x y dst t pos af g w h.1, h.2]

theorem inB (S : ByteArray) (i : Int) (n : Nat) (x : UInt8) (hin : i = (n : Int)) (h1 : n < S.size) (hx : S[n]'h1 = x) : InBy (.string S) (.int .i64 i) (x.toNat : Int) := by
  subst hin
  refine ⟨⟨S, n, rfl, rfl, h1⟩, ?_⟩
  simp only [byteAt, Int.toNat_natCast]
  rw [getElem?_pos S n h1, hx]
  rfl

/-- what the walk of the last region keeps -/
def SE2 (w0 : World) (b top : Nat) (v : Value) (l : List UInt8) (w' : World) : Prop := Below b w0 w' ∧ HasBox w' b 24 38 ∧ OwnB w' top v l
theorem SE2.put {w0 w' : World} {b top : Nat} {v : Value} {l : List UInt8} (h : SE2 w0 b top v l w') (hlt : b < top) (cs : List Value) (hn : cs.length = 38) : SE2 w0 b top v l (putAt w' (.pointer (some ⟨b, 0, none⟩)) (.agg cs.toArray)) := by
  have s := h.2.1.put cs hn
  exact ⟨s.below _ _ (Nat.le_refl _) h.1, ⟨cs, s.box, hn⟩, OwnR.keptAt h.2.2 fun j hj => s.other _ (by have := (OwnR.lt h.2.2 j hj).1; omega)⟩

set_option maxHeartbeats 16000000 in
theorem Take_ok (k : List UInt8) (hk : k.length = 38) (hc : chk k = 0) (s : List UInt8) (h3 : s.length % 3 = 0) (h300 : s.length ≤ 300) (w : World) :
    Calls Try.prog 9 #[KV k, .string (bs s)] w fun e w' => e = .returned (RK ((run k s).1, (run k s).2, 0)) ∧ Below w.heap.size w w' := by
  have HZK := Hid.mk' zeroK
  have HZ := Hid.mk' zeroT
  have HC := Hid.mk' (Check_any k hk)
  rw [hc] at HC
  have HN : Hid ((bcells noK).length = (bcells k).length) := by rw [bcells_length, bcells_length, hk]; rfl
  have HS := Hid.mk' (sizeKV k hk)
  have hsz := bs_size s
  have HST : Hid (∀ w1 w2 wr : World, Box wr w.heap.size 24 (bcells k) → Box wr w1.heap.size 24 (bcells noK) → Below w.heap.size w wr → w2.heap.size ≤ wr.heap.size → TS w k s w1.heap.size w2.heap.size s.length (.slice none 0 0) (.int .i64 0) wr) := fun w1 w2 wr h1 h2 h3 h4 =>
    ⟨0, k, [], Nat.zero_le _, by omega, rfl, rfl, by rw [List.take_zero]; exact run_nil k, hk, Hid.mk' (Nat.le_refl _), h1, h2, OwnB.nil _ _, h3, h4⟩
  unfold KV at *
  generalize hl : bcells k = l at *
  have HHL := Hid.mk' hl
  clear hl
  have hm3 : ((bs s).size : Int) % 3 = 0 := by omega
  have hm300 : ¬ (300 : Int) < ((bs s).size : Int) := by omega
  have hs0 : (0 : Int) ≤ ((bs s).size : Int) := by omega
  have HSZ := Hid.mk' hsz
  have HGET : Hid (∀ i (h : i < s.length) (h2 : i < (bs s).size), (bs s)[i]'h2 = s[i]'h) := fun i h h2 => rfl
  clear hsz
  generalize bs s = S at *
  go_enter Try.func9, Try.ntmps9
  go_wp2_with (refine wpList_box l 24 rfl _ rfl rfl ?_)
  intro w1 m1
  go_wp2_with (refine wpList_alloc (bcells noK) 24 HZK.out rfl rfl ?_)
  intro w2 m2
  have z1 := m1.lt
  have z2 := m2.lt
  have b2 := m2.keep m1.box
  have c2 := m2.box
  have HB2 := Hid.mk' (m2.below w.heap.size w (by omega) (m1.below _ _ (Nat.le_refl _) (Below.refl _ w)))
  go_wp2_with (refine wpList_load_box 24 24 l w.heap.size _ Try.underlying24 rfl HS.out b2 rfl _ rfl rfl ?_)
  refine (HC.out _).mono ?_
  rintro e w3 ⟨rfl, h3'⟩
  have z3 := h3'.size
  have HST2 := Hid.mk' (HST.out w1 w2 w3 (b2.later h3') (c2.later h3') (HB2.out.trans (h3'.mono (by omega))) z3)
  clear m1 m2 b2 c2 h3' HST HB2 HC
  go_wp2_with fail
  go_loopg [8, 9] s.length (fun g s8 s9 wr => TS w k s w1.heap.size w2.heap.size g s8 s9 wr)
  case atStart => exact HST2.out
  case round =>
    obtain ⟨i, K', S', hi, hg, hi3, rfl, HRU, HKL, HSL, HB0, HB4, HO, HBL, htop⟩ := hrel
    clear HST2 hm3
    by_cases hlt : i < s.length
    · have j0 : (0 : Int) ≤ (i : Int) := by omega
      have hsz := HSZ.out
      have j1 : (i : Int) < (S.size : Int) := by omega
      have j2 : (i : Int) + 1 < (S.size : Int) := by omega
      have j3 : (i : Int) + 2 < (S.size : Int) := by omega
      have j4 : (0 : Int) ≤ (i : Int) + 1 := by omega
      have j5 : (0 : Int) ≤ (i : Int) + 2 := by omega
      have j6 : (i : Int) ≤ 300 := by omega
      have hx0 := inB S (i : Int) i s[i] rfl (by omega) (HGET.out i hlt (by omega))
      have hx1 := inB S ((i : Int) + 1) (i + 1) (s[i + 1]'(by omega)) (by omega) (by omega) (HGET.out (i + 1) (by omega) (by omega))
      have hx2 := inB S ((i : Int) + 2) (i + 2) (s[i + 2]'(by omega)) (by omega) (by omega) (HGET.out (i + 2) (by omega) (by omega))
      obtain ⟨K2, hK2⟩ : ∃ K2, (take1 K' s[i] (s[i + 1]'(by omega)) (s[i + 2]'(by omega))).1 = K2 := ⟨_, rfl⟩
      obtain ⟨O2, hO2⟩ : ∃ O2, (take1 K' s[i] (s[i + 1]'(by omega)) (s[i + 2]'(by omega))).2 = O2 := ⟨_, rfl⟩
      have hK38 : K2.length = 38 := by rw [← hK2, take1_length]; exact HKL.out
      have hO3 : O2.length ≤ 3 := by rw [← hO2]; exact (take1_out _ _ _ _).1
      have HE : Hid (∀ w, Calls Try.prog 18 #[.agg (bcells K').toArray, .agg #[.int .u8 (s[i].toNat : Int), .int .u8 ((s[i + 1]'(by omega)).toNat : Int), .int .u8 ((s[i + 2]'(by omega)).toNat : Int)]] w fun e w' => (∃ s0 s1 s2 due, e = .returned (.tuple #[.agg (bcells K2).toArray, .agg (tc s0 s1 s2).toArray, .bool due]) ∧ (if due = true then [s0, s1, s2] else []) = O2) ∧ Below w.heap.size w w') := fun w => (hear_any K' HKL.out _ _ _ w).mono fun e w' h => by
        obtain ⟨⟨s0, s1, s2, due, h1, h2⟩, h3⟩ := h
        rw [hK2] at h1
        rw [hO2] at h2
        exact ⟨⟨s0, s1, s2, due, h1, h2⟩, h3⟩
      have HSTEP : Hid (run k (s.take (i + 3)) = (K2, S' ++ O2)) := by rw [Hid, run_step k s i (by omega) hi3, HRU.out, ← hK2, ← hO2]
      clear hK2 hO2
      have HSK := Hid.mk' (sizeKV K2 hK38)
      have HOK := Hid.mk' (bcells_one K2)
      have HN0 : Hid ((bcells noK).length = (bcells K2).length) := by rw [bcells_length, bcells_length, hK38]; rfl
      generalize s[i] = b0 at *
      generalize s[i + 1]'(by omega) = b1 at *
      generalize s[i + 2]'(by omega) = b2 at *
      clear hsz
      have HLK : Hid ((bcells K').length = 38) := by rw [bcells_length, HKL.out]; rfl
      have hE : Ext wr.drew wr.drew := Ext.refl _
      have x0 := HB0.out.drew
      have hl0 : ∀ w', Ext wr.drew w' → Lies w' (.pointer (some ⟨w.heap.size, 0, none⟩)) 38 := fun w' h => (x0.later h).lies0 HLK.out
      have hr0 : ∀ w', Ext wr.drew w' → Q.rowAt w' (.pointer (some ⟨w.heap.size, 0, none⟩)) 38 = bcells K' := fun w' h => (x0.later h).row0 HLK.out
      have HE1 : Hid (IntKind.i64.wrap ((i : Int) + 1) = (i : Int) + 1) := by rw [Hid, IntKind.wrap_i64]; omega
      have HE2 : Hid (IntKind.i64.wrap ((i : Int) + 2) = (i : Int) + 2) := by rw [Hid, IntKind.wrap_i64]; omega
      clear x0
      go_wp2_with fail
      rename_i Q' hh KA hKA J KB hJ hHand KC hKC KD hKD
      have REST : ∀ (b10 b11 : Nat) (s0 s1 s2 : UInt8) (due : Bool) (wF : World), Ext wr.drew wF → wr.drew.heap.size ≤ b10 → wr.drew.heap.size ≤ b11 → b10 ≠ b11 → Box wF b10 24 (bcells K2) → Box wF b11 41 (tc s0 s1 s2) → (if due = true then [s0, s1, s2] else []) = O2 → Exit.then KD (Exit.inBlock 1 (Exit.then KC (Exit.then KB (Exit.inBlock 0 (Exit.then KA Q'))))) Exit.normal
        { tmps := #[.agg l.toArray, .string S, .pointer (some ⟨w.heap.size, 0, none⟩), undef, .pointer (some ⟨w1.heap.size, 0, none⟩), .string { data := #[] }, .int .i64 0, .int .i64 0, u8, .int .i64 (i : Int), .pointer (some ⟨b10, 0, none⟩), .pointer (some ⟨b11, 0, none⟩), .bool due, .agg l.toArray, .int .i64 0, .int .i64 0, .bool false, undef, undef, .string S, .int .i64 (S.size : Int), .int .i64 ((S.size : Int) % 3), .bool false, undef, .string S, .int .i64 (S.size : Int), .bool (decide (300 < (S.size : Int))), undef, .int .i64 (i : Int), .string S, .int .i64 (S.size : Int), .bool true, u32, u33, .tuple #[.agg (bcells K2).toArray, .agg (tc s0 s1 s2).toArray, .bool due], .agg (bcells K').toArray, .string S, .int .i64 (i : Int), .int .u8 (b0.toNat : Int), .string S, .int .i64 (i : Int), .int .i64 ((i : Int) + 1), .int .u8 (b1.toNat : Int), .string S, .int .i64 (i : Int), .int .i64 ((i : Int) + 2), .int .u8 (b2.toNat : Int), .agg #[.int .u8 (b0.toNat : Int), .int .u8 (b1.toNat : Int), .int .u8 (b2.toNat : Int)], .tuple #[.agg (bcells K2).toArray, .agg (tc s0 s1 s2).toArray, .bool due], .agg (bcells K2).toArray, .agg (tc s0 s1 s2).toArray, .bool due, u52, u53, u54, u55, u56, undef, undef, undef], defers := [] } wF := by
        intro b10 b11 s0 s1 s2 due wF eF g10 g11 gne B10 B11 hO
        clear hE hl0 hr0 hx0 hx1 hx2 HE HE1 HE2
        have zw : w.heap.size < wr.heap.size := HB0.out.lt
        have zw1 : w1.heap.size < wr.heap.size := HB4.out.lt
        have sd : wr.drew.heap.size = wr.heap.size := rfl
        have C0 := HB0.out.drew.later eF
        have C4 := HB4.out.drew.later eF
        have CO : OwnB wF w2.heap.size u8 S' := OwnB.below (show OwnB wr.drew w2.heap.size u8 S' from HO.out) eF
        have CL := Hid.mk' (HBL.out.drew.trans (Below.mono eF (by omega)))
        have ctop : w2.heap.size ≤ wF.heap.size := Nat.le_trans htop (show wr.drew.heap.size ≤ wF.heap.size from Ext.size eF)
        have hlen := HSL.out
        go_wp2_with (first | (refine wpList_load_box 24 24 (bcells K2) b10 _ Try.underlying24 rfl HSK.out B10 rfl _ rfl rfl ?_) | (refine wpList_store_box 24 24 (bcells K') (bcells K2) w.heap.size HSK.out HOK.out C0 (by rw [HLK.out, bcells_length, hK38]) rfl _ _ rfl rfl rfl ?_))
        intro wG sG
        have D0 := Hid.mk' sG.box
        have D4 := Hid.mk' (sG.keep C4 (by omega))
        have D11 := sG.keep B11 (by omega)
        have DL := Hid.mk' (sG.below w.heap.size w (Nat.le_refl _) CL.out)
        have DO : OwnB wG w2.heap.size u8 S' := OwnR.keptAt CO fun j hj => sG.other _ (by have := (OwnR.lt CO j hj).1; omega)
        have dtop : w2.heap.size ≤ wG.heap.size := by rw [sG.size]; exact ctop
        clear sG C0 C4 CO CL B10 B11 eF
        cases due with
        | false =>
          rw [if_neg (by decide)] at hO
          subst hO
          go_wp2
          go_roundg (s.length - (i + 3))
          case measure => omega
          case rel => exact ⟨i + 3, K2, S', by omega, by omega, by omega, by go_num, Hid.mk' (by rw [HSTEP.out, List.append_nil]), hK38, Hid.mk' (by omega), D0, D4, DO, DL, dtop⟩
        | true =>
          rw [if_pos rfl] at hO
          subst hO
          obtain ⟨i0, hi', hz0, hz1, hz2⟩ := info_parts infoByte
          have HDO := Hid.mk' DO
          have HD11 := Hid.mk' D11
          clear DO D11
          go_wp2_with (at_builtin; refine wpList_append_R _ rfl _ _ _ rfl w2.heap.size 5 i0 (.int .u8 0) 1 1 Try.underlying36 hi' hz0 hz1 hz2 rfl (by decide) u8 S'.length (bcells S') rfl HDO.out ⟨b11, 0, none⟩ 3 3 (tc s0 s1 s2) rfl rfl (fun j u hu => by rw [Addr.add_mid, Nat.zero_add]; exact HD11.out.cell hu) (tc_one _ _ _) (by decide) (by unfold maxLen; omega) (by omega) dtop _ rfl ?_)
          intro g cap wH a2 a3 a4 a5
          have hbk : ∀ b, b < w2.heap.size → b < wG.heap.size → wH.heap[b]? = wG.heap[b]? := fun b h1 h2 => a3.block b h2 (fun e => by have := (OwnR.lt HDO.out b e.symm).1; omega)
          have F0 := Hid.mk' (D0.out.kept (hbk _ (by omega) D0.out.lt))
          have F4 := Hid.mk' (D4.out.kept (hbk _ z2 D4.out.lt))
          have FL := Hid.mk' (DL.out.grown a3 DL.out.size (fun k hk => by have := (OwnR.lt HDO.out k hk).1; omega))
          have ftop : w2.heap.size ≤ wH.heap.size := Nat.le_trans dtop a3.size
          have FO : Hid (OwnB wH w2.heap.size (.slice (some ⟨g, 0, none⟩) (S'.length + 3) cap) (S' ++ [s0, s1, s2])) := by
            unfold Hid OwnB
            rw [bcells_app, List.length_append]
            exact a2
          clear a2 a3 a4 a5 hbk HDO HD11 D0 D4 DL
          go_wp2
          go_roundg (s.length - (i + 3))
          case measure => omega
          case rel => exact ⟨i + 3, K2, S' ++ [s0, s1, s2], by omega, by omega, by omega, by go_num, HSTEP, hK38, Hid.mk' (by simp; omega), F0, F4, FO, FL, ftop⟩
      refine wp_region_noPanic ?_
      refine wp_region_held_drew (S := fun w' => Ext wr.drew w') (by kernel_rfl) hE (fun hHeld => ?_)
      refine wpAnyH_take (i := 0) (oi := { dst := some 35, op := Go.Op.load 24 (Go.Operand.tmp 2), type := 24, pos := _, after := #[], guard := none }) (v := .agg (bcells K').toArray) rfl (by kernel_rfl) (by kernel_rfl) (by kernel_rfl) (fun _ _ _ h => h) (Or.inl ⟨by rfl, fun w' hSw => ?_⟩) (by assumption) ?_
      · exact (exec_loadK _ _ _ _ _ _ _ _ (hl0 _ hSw)).trans (congrArg (fun z : List Value => Result.ok (Next.value (.agg z.toArray)) w') (hr0 _ hSw))
      (try simp only [Act.put]); (try simp only [List.setIfInBounds_toArray]); (try simp only [List.set_cons_succ]); (try simp only [List.set_cons_zero])
      refine wpAnyH_take (i := 1) (oi := { dst := some 36, op := Go.Op.move (Go.Operand.tmp 1), type := 9, pos := _, after := #[], guard := none }) (v := .string S) rfl (by kernel_rfl) (by kernel_rfl) (by kernel_rfl) (fun _ _ _ h => h) (Or.inl ⟨by rfl, fun w' hSw => ?_⟩) (by assumption) ?_
      · (try dsimp only at hSw); go_simp
      (try simp only [Act.put]); (try simp only [List.setIfInBounds_toArray]); (try simp only [List.set_cons_succ]); (try simp only [List.set_cons_zero])
      refine wpAnyH_take (i := 2) (oi := { dst := some 37, op := Go.Op.move (Go.Operand.tmp 9), type := 3, pos := _, after := #[], guard := none }) (v := .int .i64 (i : Int)) rfl (by kernel_rfl) (by kernel_rfl) (by kernel_rfl) (fun _ _ _ h => h) (Or.inl ⟨by rfl, fun w' hSw => ?_⟩) (by assumption) ?_
      · (try dsimp only at hSw); go_simp
      (try simp only [Act.put]); (try simp only [List.setIfInBounds_toArray]); (try simp only [List.set_cons_succ]); (try simp only [List.set_cons_zero])
      refine wpAnyH_take (i := 3) (oi := { dst := some 38, op := Go.Op.index 9 (Go.Operand.tmp 36) (Go.Operand.tmp 37), type := 5, pos := _, after := #[{ on := 1, ground := Go.Ground.data }, { on := 2, ground := Go.Ground.data }], guard := none }) (v := .int .u8 (b0.toNat : Int)) rfl (by kernel_rfl) (by kernel_rfl) (by kernel_rfl) (fun _ _ _ h => h) (Or.inl ⟨by rfl, fun w' hSw => ?_⟩) (by assumption) ?_
      · exact exec_byte _ _ _ _ _ _ _ _ _ _ hx0
      (try simp only [Act.put]); (try simp only [List.setIfInBounds_toArray]); (try simp only [List.set_cons_succ]); (try simp only [List.set_cons_zero])
      refine wpAnyH_take (i := 4) (oi := { dst := some 39, op := Go.Op.move (Go.Operand.tmp 1), type := 9, pos := _, after := #[], guard := none }) (v := .string S) rfl (by kernel_rfl) (by kernel_rfl) (by kernel_rfl) (fun _ _ _ h => h) (Or.inl ⟨by rfl, fun w' hSw => ?_⟩) (by assumption) ?_
      · (try dsimp only at hSw); go_simp
      (try simp only [Act.put]); (try simp only [List.setIfInBounds_toArray]); (try simp only [List.set_cons_succ]); (try simp only [List.set_cons_zero])
      refine wpAnyH_take (i := 5) (oi := { dst := some 40, op := Go.Op.move (Go.Operand.tmp 9), type := 3, pos := _, after := #[], guard := none }) (v := .int .i64 (i : Int)) rfl (by kernel_rfl) (by kernel_rfl) (by kernel_rfl) (fun _ _ _ h => h) (Or.inl ⟨by rfl, fun w' hSw => ?_⟩) (by assumption) ?_
      · (try dsimp only at hSw); go_simp
      (try simp only [Act.put]); (try simp only [List.setIfInBounds_toArray]); (try simp only [List.set_cons_succ]); (try simp only [List.set_cons_zero])
      refine wpAnyH_take (i := 6) (oi := { dst := some 41, op := Go.Op.binOp Go.BinOp.add 3 (Go.Operand.tmp 40) (Go.Operand.const (Go.Value.int Go.IntKind.i64 1)) 3, type := 3, pos := _, after := #[{ on := 5, ground := Go.Ground.data }], guard := none }) (v := .int .i64 ((i : Int) + 1)) rfl (by kernel_rfl) (by kernel_rfl) (by kernel_rfl) (fun _ _ _ h => h) (Or.inl ⟨by rfl, fun w' hSw => ?_⟩) (by assumption) ?_
      · go_simp; exact HE1.out
      (try simp only [Act.put]); (try simp only [List.setIfInBounds_toArray]); (try simp only [List.set_cons_succ]); (try simp only [List.set_cons_zero])
      refine wpAnyH_take (i := 7) (oi := { dst := some 42, op := Go.Op.index 9 (Go.Operand.tmp 39) (Go.Operand.tmp 41), type := 5, pos := _, after := #[{ on := 4, ground := Go.Ground.data }, { on := 6, ground := Go.Ground.data }], guard := none }) (v := .int .u8 (b1.toNat : Int)) rfl (by kernel_rfl) (by kernel_rfl) (by kernel_rfl) (fun _ _ _ h => h) (Or.inl ⟨by rfl, fun w' hSw => ?_⟩) (by assumption) ?_
      · exact exec_byte _ _ _ _ _ _ _ _ _ _ hx1
      (try simp only [Act.put]); (try simp only [List.setIfInBounds_toArray]); (try simp only [List.set_cons_succ]); (try simp only [List.set_cons_zero])
      refine wpAnyH_take (i := 8) (oi := { dst := some 43, op := Go.Op.move (Go.Operand.tmp 1), type := 9, pos := _, after := #[], guard := none }) (v := .string S) rfl (by kernel_rfl) (by kernel_rfl) (by kernel_rfl) (fun _ _ _ h => h) (Or.inl ⟨by rfl, fun w' hSw => ?_⟩) (by assumption) ?_
      · (try dsimp only at hSw); go_simp
      (try simp only [Act.put]); (try simp only [List.setIfInBounds_toArray]); (try simp only [List.set_cons_succ]); (try simp only [List.set_cons_zero])
      refine wpAnyH_take (i := 9) (oi := { dst := some 44, op := Go.Op.move (Go.Operand.tmp 9), type := 3, pos := _, after := #[], guard := none }) (v := .int .i64 (i : Int)) rfl (by kernel_rfl) (by kernel_rfl) (by kernel_rfl) (fun _ _ _ h => h) (Or.inl ⟨by rfl, fun w' hSw => ?_⟩) (by assumption) ?_
      · (try dsimp only at hSw); go_simp
      (try simp only [Act.put]); (try simp only [List.setIfInBounds_toArray]); (try simp only [List.set_cons_succ]); (try simp only [List.set_cons_zero])
      refine wpAnyH_take (i := 10) (oi := { dst := some 45, op := Go.Op.binOp Go.BinOp.add 3 (Go.Operand.tmp 44) (Go.Operand.const (Go.Value.int Go.IntKind.i64 2)) 3, type := 3, pos := _, after := #[{ on := 9, ground := Go.Ground.data }], guard := none }) (v := .int .i64 ((i : Int) + 2)) rfl (by kernel_rfl) (by kernel_rfl) (by kernel_rfl) (fun _ _ _ h => h) (Or.inl ⟨by rfl, fun w' hSw => ?_⟩) (by assumption) ?_
      · go_simp; exact HE2.out
      (try simp only [Act.put]); (try simp only [List.setIfInBounds_toArray]); (try simp only [List.set_cons_succ]); (try simp only [List.set_cons_zero])
      refine wpAnyH_take (i := 11) (oi := { dst := some 46, op := Go.Op.index 9 (Go.Operand.tmp 43) (Go.Operand.tmp 45), type := 5, pos := _, after := #[{ on := 8, ground := Go.Ground.data }, { on := 10, ground := Go.Ground.data }], guard := none }) (v := .int .u8 (b2.toNat : Int)) rfl (by kernel_rfl) (by kernel_rfl) (by kernel_rfl) (fun _ _ _ h => h) (Or.inl ⟨by rfl, fun w' hSw => ?_⟩) (by assumption) ?_
      · exact exec_byte _ _ _ _ _ _ _ _ _ _ hx2
      (try simp only [Act.put]); (try simp only [List.setIfInBounds_toArray]); (try simp only [List.set_cons_succ]); (try simp only [List.set_cons_zero])
      refine wpAnyH_take (i := 12) (oi := { dst := some 47, op := Go.Op.build 41 #[(0, Go.Operand.tmp 38), (1, Go.Operand.tmp 42), (2, Go.Operand.tmp 46)], type := 41, pos := _, after := #[{ on := 3, ground := Go.Ground.data }, { on := 7, ground := Go.Ground.data }, { on := 11, ground := Go.Ground.data }], guard := none }) (v := .agg #[.int .u8 (b0.toNat : Int), .int .u8 (b1.toNat : Int), .int .u8 (b2.toNat : Int)]) rfl (by kernel_rfl) (by kernel_rfl) (by kernel_rfl) (fun _ _ _ h => h) (Or.inl ⟨by rfl, fun w' hSw => ?_⟩) (by assumption) ?_
      · (try dsimp only at hSw); go_simp
      (try simp only [Act.put]); (try simp only [List.setIfInBounds_toArray]); (try simp only [List.set_cons_succ]); (try simp only [List.set_cons_zero])
      refine wpAnyH_ready (rs := [13, 18, 19]) (by kernel_rfl) (by simp) ?_
      refine AllReadyH.cons rfl (fun K hK => ?_) ?_
      · skip
        go_simp
        refine (HE.out _).mono ?_
        rintro e vc ⟨⟨s0, s1, s2, due, rfl, hout⟩, hb⟩
        have xvc : Ext wr.drew vc := hb
        go_wp2_with fail
        have evc : Ext wr.drew vc := Ext.trans hE xvc
        refine hK.out _ _ evc (fun hHeld => ?_)
        clear hK K
        (try simp only [Act.put]); (try simp only [List.setIfInBounds_toArray]); (try simp only [List.set_cons_succ]); (try simp only [List.set_cons_zero])
        refine wpAnyH_take (i := 14) (oi := { dst := some 34, op := Go.Op.move (Go.Operand.tmp 48), type := 42, pos := _, after := #[{ on := 13, ground := Go.Ground.data }], guard := none }) (v := .tuple #[.agg (bcells K2).toArray, .agg (tc s0 s1 s2).toArray, .bool due]) rfl (by kernel_rfl) (by kernel_rfl) (by kernel_rfl) (fun _ _ _ h => h) (Or.inl ⟨by rfl, fun w' hSw => ?_⟩) (by assumption) ?_
        · (try dsimp only at hSw); go_simp
        (try simp only [Act.put]); (try simp only [List.setIfInBounds_toArray]); (try simp only [List.set_cons_succ]); (try simp only [List.set_cons_zero])
        refine wpAnyH_take (i := 15) (oi := { dst := some 49, op := Go.Op.extract (Go.Operand.tmp 34) 0, type := 24, pos := _, after := #[{ on := 14, ground := Go.Ground.data }], guard := none }) (v := .agg (bcells K2).toArray) rfl (by kernel_rfl) (by kernel_rfl) (by kernel_rfl) (fun _ _ _ h => h) (Or.inl ⟨by rfl, fun w' hSw => ?_⟩) (by assumption) ?_
        · (try dsimp only at hSw); go_simp
        (try simp only [Act.put]); (try simp only [List.setIfInBounds_toArray]); (try simp only [List.set_cons_succ]); (try simp only [List.set_cons_zero])
        refine wpAnyH_take (i := 16) (oi := { dst := some 50, op := Go.Op.extract (Go.Operand.tmp 34) 1, type := 41, pos := _, after := #[{ on := 14, ground := Go.Ground.data }, { on := 20, ground := Go.Ground.gcOnly Go.Departure.lateStores }], guard := none }) (v := .agg (tc s0 s1 s2).toArray) rfl (by kernel_rfl) (by kernel_rfl) (by kernel_rfl) (fun _ _ _ h => h) (Or.inl ⟨by rfl, fun w' hSw => ?_⟩) (by assumption) ?_
        · (try dsimp only at hSw); go_simp
        (try simp only [Act.put]); (try simp only [List.setIfInBounds_toArray]); (try simp only [List.set_cons_succ]); (try simp only [List.set_cons_zero])
        refine wpAnyH_take (i := 17) (oi := { dst := some 51, op := Go.Op.extract (Go.Operand.tmp 34) 2, type := 4, pos := _, after := #[{ on := 14, ground := Go.Ground.data }, { on := 21, ground := Go.Ground.gcOnly Go.Departure.lateStores }], guard := none }) (v := .bool due) rfl (by kernel_rfl) (by kernel_rfl) (by kernel_rfl) (fun _ _ _ h => h) (Or.inl ⟨by rfl, fun w' hSw => ?_⟩) (by assumption) ?_
        · (try dsimp only at hSw); go_simp
        (try simp only [Act.put]); (try simp only [List.setIfInBounds_toArray]); (try simp only [List.set_cons_succ]); (try simp only [List.set_cons_zero])
        refine wpAnyH_ready (rs := [18, 19]) (by kernel_rfl) (by simp) ?_
        refine AllReadyH.cons rfl (fun K hK => ?_) ?_
        · skip
          refine step_alloc 10 (bcells noK) 24 HZK.out rfl rfl rfl ?_
          intro b10 vca fb10
          have xvca : Ext vc vca := fb10.ext
          have evca : Ext wr.drew vca := Ext.trans evc xvca
          refine hK.out _ _ evca (fun hHeld => ?_)
          clear hK K
          (try simp only [Act.put]); (try simp only [List.setIfInBounds_toArray]); (try simp only [List.set_cons_succ]); (try simp only [List.set_cons_zero])
          refine wpAnyH_ready (rs := [19]) (by kernel_rfl) (by simp) ?_
          refine AllReadyH.cons rfl (fun K hK => ?_) ?_
          · skip
            refine step_alloc 11 (tc 0 0 0) 41 HZ.out rfl rfl rfl ?_
            intro b11 vcab fb11
            have xvcab : Ext vca vcab := fb11.ext
            have evcab : Ext wr.drew vcab := Ext.trans evca xvcab
            refine hK.out _ _ evcab (fun hHeld => ?_)
            clear hK K
            (try simp only [Act.put]); (try simp only [List.setIfInBounds_toArray]); (try simp only [List.set_cons_succ]); (try simp only [List.set_cons_zero])
            have h10 := (fb10.has).ext xvcab
            have h11 := fb11.has
            have ge10 : wr.drew.heap.size ≤ b10 := Nat.le_trans (Ext.size evc) fb10.ge
            have ge11 : wr.drew.heap.size ≤ b11 := Nat.le_trans (Ext.size evca) fb11.ge
            have hlt2 : b10 < b11 := Nat.lt_of_lt_of_le (HasBox.lt (fb10.has)) fb11.ge
            have hne : b10 ≠ b11 := by omega
            rw [HN0.out] at h10
            refine wpAnyH_ready (rs := [20]) (by kernel_rfl) (by simp) ?_
            refine AllReadyH.cons rfl (fun K hK => ?_) AllReadyH.nil
            refine step_store 24 (bcells K2) b10 HSK.out HOK.out h10 rfl _ _ rfl rfl rfl rfl ?_
            intro vS sS
            have eS : Ext wr.drew vS := sS.below _ _ ge10 evcab
            refine hK.out _ _ eS (fun hHeld => ?_)
            clear hK K
            refine wpAnyH_ready (rs := [21]) (by kernel_rfl) (by simp) ?_
            refine AllReadyH.cons rfl (fun K hK => ?_) AllReadyH.nil
            refine step_store 41 (tc s0 s1 s2) b11 (sizeT3 _ _ _) (tc_one _ _ _) (h11.other (sS.other _ hne.symm)) rfl _ _ rfl rfl rfl rfl ?_
            intro vT sT
            have eT : Ext wr.drew vT := sT.below _ _ ge11 eS
            refine hK.out _ _ eT (fun hHeld => ?_)
            clear hK K
            refine wpAnyH_take (i := 22) (oi := { dst := some 12, op := Go.Op.assign (Go.Operand.tmp 51), type := 4, pos := _, after := #[{ on := 17, ground := Go.Ground.data }, { on := 21, ground := Go.Ground.chain }, { on := 0, ground := Go.Ground.phase }, { on := 1, ground := Go.Ground.phase }, { on := 2, ground := Go.Ground.phase }, { on := 3, ground := Go.Ground.phase }, { on := 4, ground := Go.Ground.phase }, { on := 5, ground := Go.Ground.phase }, { on := 6, ground := Go.Ground.phase }, { on := 7, ground := Go.Ground.phase }, { on := 8, ground := Go.Ground.phase }, { on := 9, ground := Go.Ground.phase }, { on := 10, ground := Go.Ground.phase }, { on := 11, ground := Go.Ground.phase }, { on := 12, ground := Go.Ground.phase }, { on := 13, ground := Go.Ground.phase }, { on := 14, ground := Go.Ground.phase }, { on := 15, ground := Go.Ground.phase }, { on := 16, ground := Go.Ground.phase }, { on := 17, ground := Go.Ground.phase }, { on := 18, ground := Go.Ground.phase }, { on := 19, ground := Go.Ground.phase }, { on := 20, ground := Go.Ground.phase }, { on := 21, ground := Go.Ground.phase }], guard := none }) (v := .bool due) rfl (by kernel_rfl) (by kernel_rfl) (by kernel_rfl) (fun _ _ _ h => h) (Or.inl ⟨by rfl, fun w' hSw => ?_⟩) (by assumption) ?_
            · (try dsimp only at hSw); go_simp
            (try simp only [Act.put]); (try simp only [List.setIfInBounds_toArray]); (try simp only [List.set_cons_succ]); (try simp only [List.set_cons_zero])
            refine wpAnyH_done (by kernel_rfl) ?_ _
            refine NoPanic.normal ?_
            exact REST b10 b11 s0 s1 s2 due vT eT ge10 ge11 hne (sT.keep sS.box hne) sT.box hout
          exact AllReadyH.nil
        refine AllReadyH.cons rfl (fun K hK => ?_) ?_
        · skip
          refine step_alloc 11 (tc 0 0 0) 41 HZ.out rfl rfl rfl ?_
          intro b11 vcb fb11
          have xvcb : Ext vc vcb := fb11.ext
          have evcb : Ext wr.drew vcb := Ext.trans evc xvcb
          refine hK.out _ _ evcb (fun hHeld => ?_)
          clear hK K
          (try simp only [Act.put]); (try simp only [List.setIfInBounds_toArray]); (try simp only [List.set_cons_succ]); (try simp only [List.set_cons_zero])
          refine wpAnyH_ready (rs := [18]) (by kernel_rfl) (by simp) ?_
          refine AllReadyH.cons rfl (fun K hK => ?_) ?_
          · skip
            refine step_alloc 10 (bcells noK) 24 HZK.out rfl rfl rfl ?_
            intro b10 vcba fb10
            have xvcba : Ext vcb vcba := fb10.ext
            have evcba : Ext wr.drew vcba := Ext.trans evcb xvcba
            refine hK.out _ _ evcba (fun hHeld => ?_)
            clear hK K
            (try simp only [Act.put]); (try simp only [List.setIfInBounds_toArray]); (try simp only [List.set_cons_succ]); (try simp only [List.set_cons_zero])
            have h10 := fb10.has
            have h11 := (fb11.has).ext xvcba
            have ge10 : wr.drew.heap.size ≤ b10 := Nat.le_trans (Ext.size evcb) fb10.ge
            have ge11 : wr.drew.heap.size ≤ b11 := Nat.le_trans (Ext.size evc) fb11.ge
            have hlt2 : b11 < b10 := Nat.lt_of_lt_of_le (HasBox.lt (fb11.has)) fb10.ge
            have hne : b10 ≠ b11 := by omega
            rw [HN0.out] at h10
            refine wpAnyH_ready (rs := [20]) (by kernel_rfl) (by simp) ?_
            refine AllReadyH.cons rfl (fun K hK => ?_) AllReadyH.nil
            refine step_store 24 (bcells K2) b10 HSK.out HOK.out h10 rfl _ _ rfl rfl rfl rfl ?_
            intro vS sS
            have eS : Ext wr.drew vS := sS.below _ _ ge10 evcba
            refine hK.out _ _ eS (fun hHeld => ?_)
            clear hK K
            refine wpAnyH_ready (rs := [21]) (by kernel_rfl) (by simp) ?_
            refine AllReadyH.cons rfl (fun K hK => ?_) AllReadyH.nil
            refine step_store 41 (tc s0 s1 s2) b11 (sizeT3 _ _ _) (tc_one _ _ _) (h11.other (sS.other _ hne.symm)) rfl _ _ rfl rfl rfl rfl ?_
            intro vT sT
            have eT : Ext wr.drew vT := sT.below _ _ ge11 eS
            refine hK.out _ _ eT (fun hHeld => ?_)
            clear hK K
            refine wpAnyH_take (i := 22) (oi := { dst := some 12, op := Go.Op.assign (Go.Operand.tmp 51), type := 4, pos := _, after := #[{ on := 17, ground := Go.Ground.data }, { on := 21, ground := Go.Ground.chain }, { on := 0, ground := Go.Ground.phase }, { on := 1, ground := Go.Ground.phase }, { on := 2, ground := Go.Ground.phase }, { on := 3, ground := Go.Ground.phase }, { on := 4, ground := Go.Ground.phase }, { on := 5, ground := Go.Ground.phase }, { on := 6, ground := Go.Ground.phase }, { on := 7, ground := Go.Ground.phase }, { on := 8, ground := Go.Ground.phase }, { on := 9, ground := Go.Ground.phase }, { on := 10, ground := Go.Ground.phase }, { on := 11, ground := Go.Ground.phase }, { on := 12, ground := Go.Ground.phase }, { on := 13, ground := Go.Ground.phase }, { on := 14, ground := Go.Ground.phase }, { on := 15, ground := Go.Ground.phase }, { on := 16, ground := Go.Ground.phase }, { on := 17, ground := Go.Ground.phase }, { on := 18, ground := Go.Ground.phase }, { on := 19, ground := Go.Ground.phase }, { on := 20, ground := Go.Ground.phase }, { on := 21, ground := Go.Ground.phase }], guard := none }) (v := .bool due) rfl (by kernel_rfl) (by kernel_rfl) (by kernel_rfl) (fun _ _ _ h => h) (Or.inl ⟨by rfl, fun w' hSw => ?_⟩) (by assumption) ?_
            · (try dsimp only at hSw); go_simp
            (try simp only [Act.put]); (try simp only [List.setIfInBounds_toArray]); (try simp only [List.set_cons_succ]); (try simp only [List.set_cons_zero])
            refine wpAnyH_done (by kernel_rfl) ?_ _
            refine NoPanic.normal ?_
            exact REST b10 b11 s0 s1 s2 due vT eT ge10 ge11 hne (sT.keep sS.box hne) sT.box hout
          exact AllReadyH.nil
        exact AllReadyH.nil
      refine AllReadyH.cons rfl (fun K hK => ?_) ?_
      · skip
        refine step_alloc 10 (bcells noK) 24 HZK.out rfl rfl rfl ?_
        intro b10 va fb10
        have xva : Ext wr.drew va := fb10.ext
        have eva : Ext wr.drew va := Ext.trans hE xva
        refine hK.out _ _ eva (fun hHeld => ?_)
        clear hK K
        (try simp only [Act.put]); (try simp only [List.setIfInBounds_toArray]); (try simp only [List.set_cons_succ]); (try simp only [List.set_cons_zero])
        refine wpAnyH_ready (rs := [13, 19]) (by kernel_rfl) (by simp) ?_
        refine AllReadyH.cons rfl (fun K hK => ?_) ?_
        · skip
          go_simp
          refine (HE.out _).mono ?_
          rintro e vac ⟨⟨s0, s1, s2, due, rfl, hout⟩, hb⟩
          have xvac : Ext va vac := hb
          go_wp2_with fail
          have evac : Ext wr.drew vac := Ext.trans eva xvac
          refine hK.out _ _ evac (fun hHeld => ?_)
          clear hK K
          (try simp only [Act.put]); (try simp only [List.setIfInBounds_toArray]); (try simp only [List.set_cons_succ]); (try simp only [List.set_cons_zero])
          refine wpAnyH_take (i := 14) (oi := { dst := some 34, op := Go.Op.move (Go.Operand.tmp 48), type := 42, pos := _, after := #[{ on := 13, ground := Go.Ground.data }], guard := none }) (v := .tuple #[.agg (bcells K2).toArray, .agg (tc s0 s1 s2).toArray, .bool due]) rfl (by kernel_rfl) (by kernel_rfl) (by kernel_rfl) (fun _ _ _ h => h) (Or.inl ⟨by rfl, fun w' hSw => ?_⟩) (by assumption) ?_
          · (try dsimp only at hSw); go_simp
          (try simp only [Act.put]); (try simp only [List.setIfInBounds_toArray]); (try simp only [List.set_cons_succ]); (try simp only [List.set_cons_zero])
          refine wpAnyH_take (i := 15) (oi := { dst := some 49, op := Go.Op.extract (Go.Operand.tmp 34) 0, type := 24, pos := _, after := #[{ on := 14, ground := Go.Ground.data }], guard := none }) (v := .agg (bcells K2).toArray) rfl (by kernel_rfl) (by kernel_rfl) (by kernel_rfl) (fun _ _ _ h => h) (Or.inl ⟨by rfl, fun w' hSw => ?_⟩) (by assumption) ?_
          · (try dsimp only at hSw); go_simp
          (try simp only [Act.put]); (try simp only [List.setIfInBounds_toArray]); (try simp only [List.set_cons_succ]); (try simp only [List.set_cons_zero])
          refine wpAnyH_take (i := 16) (oi := { dst := some 50, op := Go.Op.extract (Go.Operand.tmp 34) 1, type := 41, pos := _, after := #[{ on := 14, ground := Go.Ground.data }, { on := 20, ground := Go.Ground.gcOnly Go.Departure.lateStores }], guard := none }) (v := .agg (tc s0 s1 s2).toArray) rfl (by kernel_rfl) (by kernel_rfl) (by kernel_rfl) (fun _ _ _ h => h) (Or.inl ⟨by rfl, fun w' hSw => ?_⟩) (by assumption) ?_
          · (try dsimp only at hSw); go_simp
          (try simp only [Act.put]); (try simp only [List.setIfInBounds_toArray]); (try simp only [List.set_cons_succ]); (try simp only [List.set_cons_zero])
          refine wpAnyH_take (i := 17) (oi := { dst := some 51, op := Go.Op.extract (Go.Operand.tmp 34) 2, type := 4, pos := _, after := #[{ on := 14, ground := Go.Ground.data }, { on := 21, ground := Go.Ground.gcOnly Go.Departure.lateStores }], guard := none }) (v := .bool due) rfl (by kernel_rfl) (by kernel_rfl) (by kernel_rfl) (fun _ _ _ h => h) (Or.inl ⟨by rfl, fun w' hSw => ?_⟩) (by assumption) ?_
          · (try dsimp only at hSw); go_simp
          (try simp only [Act.put]); (try simp only [List.setIfInBounds_toArray]); (try simp only [List.set_cons_succ]); (try simp only [List.set_cons_zero])
          refine wpAnyH_ready (rs := [19]) (by kernel_rfl) (by simp) ?_
          refine AllReadyH.cons rfl (fun K hK => ?_) ?_
          · skip
            refine step_alloc 11 (tc 0 0 0) 41 HZ.out rfl rfl rfl ?_
            intro b11 vacb fb11
            have xvacb : Ext vac vacb := fb11.ext
            have evacb : Ext wr.drew vacb := Ext.trans evac xvacb
            refine hK.out _ _ evacb (fun hHeld => ?_)
            clear hK K
            (try simp only [Act.put]); (try simp only [List.setIfInBounds_toArray]); (try simp only [List.set_cons_succ]); (try simp only [List.set_cons_zero])
            have h10 := ((fb10.has).ext xvac).ext xvacb
            have h11 := fb11.has
            have ge10 : wr.drew.heap.size ≤ b10 := Nat.le_trans (Ext.size hE) fb10.ge
            have ge11 : wr.drew.heap.size ≤ b11 := Nat.le_trans (Ext.size evac) fb11.ge
            have hlt2 : b10 < b11 := Nat.lt_of_lt_of_le (HasBox.lt ((fb10.has).ext xvac)) fb11.ge
            have hne : b10 ≠ b11 := by omega
            rw [HN0.out] at h10
            refine wpAnyH_ready (rs := [20]) (by kernel_rfl) (by simp) ?_
            refine AllReadyH.cons rfl (fun K hK => ?_) AllReadyH.nil
            refine step_store 24 (bcells K2) b10 HSK.out HOK.out h10 rfl _ _ rfl rfl rfl rfl ?_
            intro vS sS
            have eS : Ext wr.drew vS := sS.below _ _ ge10 evacb
            refine hK.out _ _ eS (fun hHeld => ?_)
            clear hK K
            refine wpAnyH_ready (rs := [21]) (by kernel_rfl) (by simp) ?_
            refine AllReadyH.cons rfl (fun K hK => ?_) AllReadyH.nil
            refine step_store 41 (tc s0 s1 s2) b11 (sizeT3 _ _ _) (tc_one _ _ _) (h11.other (sS.other _ hne.symm)) rfl _ _ rfl rfl rfl rfl ?_
            intro vT sT
            have eT : Ext wr.drew vT := sT.below _ _ ge11 eS
            refine hK.out _ _ eT (fun hHeld => ?_)
            clear hK K
            refine wpAnyH_take (i := 22) (oi := { dst := some 12, op := Go.Op.assign (Go.Operand.tmp 51), type := 4, pos := _, after := #[{ on := 17, ground := Go.Ground.data }, { on := 21, ground := Go.Ground.chain }, { on := 0, ground := Go.Ground.phase }, { on := 1, ground := Go.Ground.phase }, { on := 2, ground := Go.Ground.phase }, { on := 3, ground := Go.Ground.phase }, { on := 4, ground := Go.Ground.phase }, { on := 5, ground := Go.Ground.phase }, { on := 6, ground := Go.Ground.phase }, { on := 7, ground := Go.Ground.phase }, { on := 8, ground := Go.Ground.phase }, { on := 9, ground := Go.Ground.phase }, { on := 10, ground := Go.Ground.phase }, { on := 11, ground := Go.Ground.phase }, { on := 12, ground := Go.Ground.phase }, { on := 13, ground := Go.Ground.phase }, { on := 14, ground := Go.Ground.phase }, { on := 15, ground := Go.Ground.phase }, { on := 16, ground := Go.Ground.phase }, { on := 17, ground := Go.Ground.phase }, { on := 18, ground := Go.Ground.phase }, { on := 19, ground := Go.Ground.phase }, { on := 20, ground := Go.Ground.phase }, { on := 21, ground := Go.Ground.phase }], guard := none }) (v := .bool due) rfl (by kernel_rfl) (by kernel_rfl) (by kernel_rfl) (fun _ _ _ h => h) (Or.inl ⟨by rfl, fun w' hSw => ?_⟩) (by assumption) ?_
            · (try dsimp only at hSw); go_simp
            (try simp only [Act.put]); (try simp only [List.setIfInBounds_toArray]); (try simp only [List.set_cons_succ]); (try simp only [List.set_cons_zero])
            refine wpAnyH_done (by kernel_rfl) ?_ _
            refine NoPanic.normal ?_
            exact REST b10 b11 s0 s1 s2 due vT eT ge10 ge11 hne (sT.keep sS.box hne) sT.box hout
          exact AllReadyH.nil
        refine AllReadyH.cons rfl (fun K hK => ?_) ?_
        · skip
          refine step_alloc 11 (tc 0 0 0) 41 HZ.out rfl rfl rfl ?_
          intro b11 vab fb11
          have xvab : Ext va vab := fb11.ext
          have evab : Ext wr.drew vab := Ext.trans eva xvab
          refine hK.out _ _ evab (fun hHeld => ?_)
          clear hK K
          (try simp only [Act.put]); (try simp only [List.setIfInBounds_toArray]); (try simp only [List.set_cons_succ]); (try simp only [List.set_cons_zero])
          refine wpAnyH_ready (rs := [13]) (by kernel_rfl) (by simp) ?_
          refine AllReadyH.cons rfl (fun K hK => ?_) ?_
          · skip
            go_simp
            refine (HE.out _).mono ?_
            rintro e vabc ⟨⟨s0, s1, s2, due, rfl, hout⟩, hb⟩
            have xvabc : Ext vab vabc := hb
            go_wp2_with fail
            have evabc : Ext wr.drew vabc := Ext.trans evab xvabc
            refine hK.out _ _ evabc (fun hHeld => ?_)
            clear hK K
            (try simp only [Act.put]); (try simp only [List.setIfInBounds_toArray]); (try simp only [List.set_cons_succ]); (try simp only [List.set_cons_zero])
            refine wpAnyH_take (i := 14) (oi := { dst := some 34, op := Go.Op.move (Go.Operand.tmp 48), type := 42, pos := _, after := #[{ on := 13, ground := Go.Ground.data }], guard := none }) (v := .tuple #[.agg (bcells K2).toArray, .agg (tc s0 s1 s2).toArray, .bool due]) rfl (by kernel_rfl) (by kernel_rfl) (by kernel_rfl) (fun _ _ _ h => h) (Or.inl ⟨by rfl, fun w' hSw => ?_⟩) (by assumption) ?_
            · (try dsimp only at hSw); go_simp
            (try simp only [Act.put]); (try simp only [List.setIfInBounds_toArray]); (try simp only [List.set_cons_succ]); (try simp only [List.set_cons_zero])
            refine wpAnyH_take (i := 15) (oi := { dst := some 49, op := Go.Op.extract (Go.Operand.tmp 34) 0, type := 24, pos := _, after := #[{ on := 14, ground := Go.Ground.data }], guard := none }) (v := .agg (bcells K2).toArray) rfl (by kernel_rfl) (by kernel_rfl) (by kernel_rfl) (fun _ _ _ h => h) (Or.inl ⟨by rfl, fun w' hSw => ?_⟩) (by assumption) ?_
            · (try dsimp only at hSw); go_simp
            (try simp only [Act.put]); (try simp only [List.setIfInBounds_toArray]); (try simp only [List.set_cons_succ]); (try simp only [List.set_cons_zero])
            refine wpAnyH_take (i := 16) (oi := { dst := some 50, op := Go.Op.extract (Go.Operand.tmp 34) 1, type := 41, pos := _, after := #[{ on := 14, ground := Go.Ground.data }, { on := 20, ground := Go.Ground.gcOnly Go.Departure.lateStores }], guard := none }) (v := .agg (tc s0 s1 s2).toArray) rfl (by kernel_rfl) (by kernel_rfl) (by kernel_rfl) (fun _ _ _ h => h) (Or.inl ⟨by rfl, fun w' hSw => ?_⟩) (by assumption) ?_
            · (try dsimp only at hSw); go_simp
            (try simp only [Act.put]); (try simp only [List.setIfInBounds_toArray]); (try simp only [List.set_cons_succ]); (try simp only [List.set_cons_zero])
            refine wpAnyH_take (i := 17) (oi := { dst := some 51, op := Go.Op.extract (Go.Operand.tmp 34) 2, type := 4, pos := _, after := #[{ on := 14, ground := Go.Ground.data }, { on := 21, ground := Go.Ground.gcOnly Go.Departure.lateStores }], guard := none }) (v := .bool due) rfl (by kernel_rfl) (by kernel_rfl) (by kernel_rfl) (fun _ _ _ h => h) (Or.inl ⟨by rfl, fun w' hSw => ?_⟩) (by assumption) ?_
            · (try dsimp only at hSw); go_simp
            (try simp only [Act.put]); (try simp only [List.setIfInBounds_toArray]); (try simp only [List.set_cons_succ]); (try simp only [List.set_cons_zero])
            have h10 := ((fb10.has).ext xvab).ext xvabc
            have h11 := (fb11.has).ext xvabc
            have ge10 : wr.drew.heap.size ≤ b10 := Nat.le_trans (Ext.size hE) fb10.ge
            have ge11 : wr.drew.heap.size ≤ b11 := Nat.le_trans (Ext.size eva) fb11.ge
            have hlt2 : b10 < b11 := Nat.lt_of_lt_of_le (HasBox.lt (fb10.has)) fb11.ge
            have hne : b10 ≠ b11 := by omega
            rw [HN0.out] at h10
            refine wpAnyH_ready (rs := [20]) (by kernel_rfl) (by simp) ?_
            refine AllReadyH.cons rfl (fun K hK => ?_) AllReadyH.nil
            refine step_store 24 (bcells K2) b10 HSK.out HOK.out h10 rfl _ _ rfl rfl rfl rfl ?_
            intro vS sS
            have eS : Ext wr.drew vS := sS.below _ _ ge10 evabc
            refine hK.out _ _ eS (fun hHeld => ?_)
            clear hK K
            refine wpAnyH_ready (rs := [21]) (by kernel_rfl) (by simp) ?_
            refine AllReadyH.cons rfl (fun K hK => ?_) AllReadyH.nil
            refine step_store 41 (tc s0 s1 s2) b11 (sizeT3 _ _ _) (tc_one _ _ _) (h11.other (sS.other _ hne.symm)) rfl _ _ rfl rfl rfl rfl ?_
            intro vT sT
            have eT : Ext wr.drew vT := sT.below _ _ ge11 eS
            refine hK.out _ _ eT (fun hHeld => ?_)
            clear hK K
            refine wpAnyH_take (i := 22) (oi := { dst := some 12, op := Go.Op.assign (Go.Operand.tmp 51), type := 4, pos := _, after := #[{ on := 17, ground := Go.Ground.data }, { on := 21, ground := Go.Ground.chain }, { on := 0, ground := Go.Ground.phase }, { on := 1, ground := Go.Ground.phase }, { on := 2, ground := Go.Ground.phase }, { on := 3, ground := Go.Ground.phase }, { on := 4, ground := Go.Ground.phase }, { on := 5, ground := Go.Ground.phase }, { on := 6, ground := Go.Ground.phase }, { on := 7, ground := Go.Ground.phase }, { on := 8, ground := Go.Ground.phase }, { on := 9, ground := Go.Ground.phase }, { on := 10, ground := Go.Ground.phase }, { on := 11, ground := Go.Ground.phase }, { on := 12, ground := Go.Ground.phase }, { on := 13, ground := Go.Ground.phase }, { on := 14, ground := Go.Ground.phase }, { on := 15, ground := Go.Ground.phase }, { on := 16, ground := Go.Ground.phase }, { on := 17, ground := Go.Ground.phase }, { on := 18, ground := Go.Ground.phase }, { on := 19, ground := Go.Ground.phase }, { on := 20, ground := Go.Ground.phase }, { on := 21, ground := Go.Ground.phase }], guard := none }) (v := .bool due) rfl (by kernel_rfl) (by kernel_rfl) (by kernel_rfl) (fun _ _ _ h => h) (Or.inl ⟨by rfl, fun w' hSw => ?_⟩) (by assumption) ?_
            · (try dsimp only at hSw); go_simp
            (try simp only [Act.put]); (try simp only [List.setIfInBounds_toArray]); (try simp only [List.set_cons_succ]); (try simp only [List.set_cons_zero])
            refine wpAnyH_done (by kernel_rfl) ?_ _
            refine NoPanic.normal ?_
            exact REST b10 b11 s0 s1 s2 due vT eT ge10 ge11 hne (sT.keep sS.box hne) sT.box hout
          exact AllReadyH.nil
        exact AllReadyH.nil
      refine AllReadyH.cons rfl (fun K hK => ?_) ?_
      · skip
        refine step_alloc 11 (tc 0 0 0) 41 HZ.out rfl rfl rfl ?_
        intro b11 vb fb11
        have xvb : Ext wr.drew vb := fb11.ext
        have evb : Ext wr.drew vb := Ext.trans hE xvb
        refine hK.out _ _ evb (fun hHeld => ?_)
        clear hK K
        (try simp only [Act.put]); (try simp only [List.setIfInBounds_toArray]); (try simp only [List.set_cons_succ]); (try simp only [List.set_cons_zero])
        refine wpAnyH_ready (rs := [13, 18]) (by kernel_rfl) (by simp) ?_
        refine AllReadyH.cons rfl (fun K hK => ?_) ?_
        · skip
          go_simp
          refine (HE.out _).mono ?_
          rintro e vbc ⟨⟨s0, s1, s2, due, rfl, hout⟩, hb⟩
          have xvbc : Ext vb vbc := hb
          go_wp2_with fail
          have evbc : Ext wr.drew vbc := Ext.trans evb xvbc
          refine hK.out _ _ evbc (fun hHeld => ?_)
          clear hK K
          (try simp only [Act.put]); (try simp only [List.setIfInBounds_toArray]); (try simp only [List.set_cons_succ]); (try simp only [List.set_cons_zero])
          refine wpAnyH_take (i := 14) (oi := { dst := some 34, op := Go.Op.move (Go.Operand.tmp 48), type := 42, pos := _, after := #[{ on := 13, ground := Go.Ground.data }], guard := none }) (v := .tuple #[.agg (bcells K2).toArray, .agg (tc s0 s1 s2).toArray, .bool due]) rfl (by kernel_rfl) (by kernel_rfl) (by kernel_rfl) (fun _ _ _ h => h) (Or.inl ⟨by rfl, fun w' hSw => ?_⟩) (by assumption) ?_
          · (try dsimp only at hSw); go_simp
          (try simp only [Act.put]); (try simp only [List.setIfInBounds_toArray]); (try simp only [List.set_cons_succ]); (try simp only [List.set_cons_zero])
          refine wpAnyH_take (i := 15) (oi := { dst := some 49, op := Go.Op.extract (Go.Operand.tmp 34) 0, type := 24, pos := _, after := #[{ on := 14, ground := Go.Ground.data }], guard := none }) (v := .agg (bcells K2).toArray) rfl (by kernel_rfl) (by kernel_rfl) (by kernel_rfl) (fun _ _ _ h => h) (Or.inl ⟨by rfl, fun w' hSw => ?_⟩) (by assumption) ?_
          · (try dsimp only at hSw); go_simp
          (try simp only [Act.put]); (try simp only [List.setIfInBounds_toArray]); (try simp only [List.set_cons_succ]); (try simp only [List.set_cons_zero])
          refine wpAnyH_take (i := 16) (oi := { dst := some 50, op := Go.Op.extract (Go.Operand.tmp 34) 1, type := 41, pos := _, after := #[{ on := 14, ground := Go.Ground.data }, { on := 20, ground := Go.Ground.gcOnly Go.Departure.lateStores }], guard := none }) (v := .agg (tc s0 s1 s2).toArray) rfl (by kernel_rfl) (by kernel_rfl) (by kernel_rfl) (fun _ _ _ h => h) (Or.inl ⟨by rfl, fun w' hSw => ?_⟩) (by assumption) ?_
          · (try dsimp only at hSw); go_simp
          (try simp only [Act.put]); (try simp only [List.setIfInBounds_toArray]); (try simp only [List.set_cons_succ]); (try simp only [List.set_cons_zero])
          refine wpAnyH_take (i := 17) (oi := { dst := some 51, op := Go.Op.extract (Go.Operand.tmp 34) 2, type := 4, pos := _, after := #[{ on := 14, ground := Go.Ground.data }, { on := 21, ground := Go.Ground.gcOnly Go.Departure.lateStores }], guard := none }) (v := .bool due) rfl (by kernel_rfl) (by kernel_rfl) (by kernel_rfl) (fun _ _ _ h => h) (Or.inl ⟨by rfl, fun w' hSw => ?_⟩) (by assumption) ?_
          · (try dsimp only at hSw); go_simp
          (try simp only [Act.put]); (try simp only [List.setIfInBounds_toArray]); (try simp only [List.set_cons_succ]); (try simp only [List.set_cons_zero])
          refine wpAnyH_ready (rs := [18]) (by kernel_rfl) (by simp) ?_
          refine AllReadyH.cons rfl (fun K hK => ?_) ?_
          · skip
            refine step_alloc 10 (bcells noK) 24 HZK.out rfl rfl rfl ?_
            intro b10 vbca fb10
            have xvbca : Ext vbc vbca := fb10.ext
            have evbca : Ext wr.drew vbca := Ext.trans evbc xvbca
            refine hK.out _ _ evbca (fun hHeld => ?_)
            clear hK K
            (try simp only [Act.put]); (try simp only [List.setIfInBounds_toArray]); (try simp only [List.set_cons_succ]); (try simp only [List.set_cons_zero])
            have h10 := fb10.has
            have h11 := ((fb11.has).ext xvbc).ext xvbca
            have ge10 : wr.drew.heap.size ≤ b10 := Nat.le_trans (Ext.size evbc) fb10.ge
            have ge11 : wr.drew.heap.size ≤ b11 := Nat.le_trans (Ext.size hE) fb11.ge
            have hlt2 : b11 < b10 := Nat.lt_of_lt_of_le (HasBox.lt ((fb11.has).ext xvbc)) fb10.ge
            have hne : b10 ≠ b11 := by omega
            rw [HN0.out] at h10
            refine wpAnyH_ready (rs := [20]) (by kernel_rfl) (by simp) ?_
            refine AllReadyH.cons rfl (fun K hK => ?_) AllReadyH.nil
            refine step_store 24 (bcells K2) b10 HSK.out HOK.out h10 rfl _ _ rfl rfl rfl rfl ?_
            intro vS sS
            have eS : Ext wr.drew vS := sS.below _ _ ge10 evbca
            refine hK.out _ _ eS (fun hHeld => ?_)
            clear hK K
            refine wpAnyH_ready (rs := [21]) (by kernel_rfl) (by simp) ?_
            refine AllReadyH.cons rfl (fun K hK => ?_) AllReadyH.nil
            refine step_store 41 (tc s0 s1 s2) b11 (sizeT3 _ _ _) (tc_one _ _ _) (h11.other (sS.other _ hne.symm)) rfl _ _ rfl rfl rfl rfl ?_
            intro vT sT
            have eT : Ext wr.drew vT := sT.below _ _ ge11 eS
            refine hK.out _ _ eT (fun hHeld => ?_)
            clear hK K
            refine wpAnyH_take (i := 22) (oi := { dst := some 12, op := Go.Op.assign (Go.Operand.tmp 51), type := 4, pos := _, after := #[{ on := 17, ground := Go.Ground.data }, { on := 21, ground := Go.Ground.chain }, { on := 0, ground := Go.Ground.phase }, { on := 1, ground := Go.Ground.phase }, { on := 2, ground := Go.Ground.phase }, { on := 3, ground := Go.Ground.phase }, { on := 4, ground := Go.Ground.phase }, { on := 5, ground := Go.Ground.phase }, { on := 6, ground := Go.Ground.phase }, { on := 7, ground := Go.Ground.phase }, { on := 8, ground := Go.Ground.phase }, { on := 9, ground := Go.Ground.phase }, { on := 10, ground := Go.Ground.phase }, { on := 11, ground := Go.Ground.phase }, { on := 12, ground := Go.Ground.phase }, { on := 13, ground := Go.Ground.phase }, { on := 14, ground := Go.Ground.phase }, { on := 15, ground := Go.Ground.phase }, { on := 16, ground := Go.Ground.phase }, { on := 17, ground := Go.Ground.phase }, { on := 18, ground := Go.Ground.phase }, { on := 19, ground := Go.Ground.phase }, { on := 20, ground := Go.Ground.phase }, { on := 21, ground := Go.Ground.phase }], guard := none }) (v := .bool due) rfl (by kernel_rfl) (by kernel_rfl) (by kernel_rfl) (fun _ _ _ h => h) (Or.inl ⟨by rfl, fun w' hSw => ?_⟩) (by assumption) ?_
            · (try dsimp only at hSw); go_simp
            (try simp only [Act.put]); (try simp only [List.setIfInBounds_toArray]); (try simp only [List.set_cons_succ]); (try simp only [List.set_cons_zero])
            refine wpAnyH_done (by kernel_rfl) ?_ _
            refine NoPanic.normal ?_
            exact REST b10 b11 s0 s1 s2 due vT eT ge10 ge11 hne (sT.keep sS.box hne) sT.box hout
          exact AllReadyH.nil
        refine AllReadyH.cons rfl (fun K hK => ?_) ?_
        · skip
          refine step_alloc 10 (bcells noK) 24 HZK.out rfl rfl rfl ?_
          intro b10 vba fb10
          have xvba : Ext vb vba := fb10.ext
          have evba : Ext wr.drew vba := Ext.trans evb xvba
          refine hK.out _ _ evba (fun hHeld => ?_)
          clear hK K
          (try simp only [Act.put]); (try simp only [List.setIfInBounds_toArray]); (try simp only [List.set_cons_succ]); (try simp only [List.set_cons_zero])
          refine wpAnyH_ready (rs := [13]) (by kernel_rfl) (by simp) ?_
          refine AllReadyH.cons rfl (fun K hK => ?_) ?_
          · skip
            go_simp
            refine (HE.out _).mono ?_
            rintro e vbac ⟨⟨s0, s1, s2, due, rfl, hout⟩, hb⟩
            have xvbac : Ext vba vbac := hb
            go_wp2_with fail
            have evbac : Ext wr.drew vbac := Ext.trans evba xvbac
            refine hK.out _ _ evbac (fun hHeld => ?_)
            clear hK K
            (try simp only [Act.put]); (try simp only [List.setIfInBounds_toArray]); (try simp only [List.set_cons_succ]); (try simp only [List.set_cons_zero])
            refine wpAnyH_take (i := 14) (oi := { dst := some 34, op := Go.Op.move (Go.Operand.tmp 48), type := 42, pos := _, after := #[{ on := 13, ground := Go.Ground.data }], guard := none }) (v := .tuple #[.agg (bcells K2).toArray, .agg (tc s0 s1 s2).toArray, .bool due]) rfl (by kernel_rfl) (by kernel_rfl) (by kernel_rfl) (fun _ _ _ h => h) (Or.inl ⟨by rfl, fun w' hSw => ?_⟩) (by assumption) ?_
            · (try dsimp only at hSw); go_simp
            (try simp only [Act.put]); (try simp only [List.setIfInBounds_toArray]); (try simp only [List.set_cons_succ]); (try simp only [List.set_cons_zero])
            refine wpAnyH_take (i := 15) (oi := { dst := some 49, op := Go.Op.extract (Go.Operand.tmp 34) 0, type := 24, pos := _, after := #[{ on := 14, ground := Go.Ground.data }], guard := none }) (v := .agg (bcells K2).toArray) rfl (by kernel_rfl) (by kernel_rfl) (by kernel_rfl) (fun _ _ _ h => h) (Or.inl ⟨by rfl, fun w' hSw => ?_⟩) (by assumption) ?_
            · (try dsimp only at hSw); go_simp
            (try simp only [Act.put]); (try simp only [List.setIfInBounds_toArray]); (try simp only [List.set_cons_succ]); (try simp only [List.set_cons_zero])
            refine wpAnyH_take (i := 16) (oi := { dst := some 50, op := Go.Op.extract (Go.Operand.tmp 34) 1, type := 41, pos := _, after := #[{ on := 14, ground := Go.Ground.data }, { on := 20, ground := Go.Ground.gcOnly Go.Departure.lateStores }], guard := none }) (v := .agg (tc s0 s1 s2).toArray) rfl (by kernel_rfl) (by kernel_rfl) (by kernel_rfl) (fun _ _ _ h => h) (Or.inl ⟨by rfl, fun w' hSw => ?_⟩) (by assumption) ?_
            · (try dsimp only at hSw); go_simp
            (try simp only [Act.put]); (try simp only [List.setIfInBounds_toArray]); (try simp only [List.set_cons_succ]); (try simp only [List.set_cons_zero])
            refine wpAnyH_take (i := 17) (oi := { dst := some 51, op := Go.Op.extract (Go.Operand.tmp 34) 2, type := 4, pos := _, after := #[{ on := 14, ground := Go.Ground.data }, { on := 21, ground := Go.Ground.gcOnly Go.Departure.lateStores }], guard := none }) (v := .bool due) rfl (by kernel_rfl) (by kernel_rfl) (by kernel_rfl) (fun _ _ _ h => h) (Or.inl ⟨by rfl, fun w' hSw => ?_⟩) (by assumption) ?_
            · (try dsimp only at hSw); go_simp
            (try simp only [Act.put]); (try simp only [List.setIfInBounds_toArray]); (try simp only [List.set_cons_succ]); (try simp only [List.set_cons_zero])
            have h10 := (fb10.has).ext xvbac
            have h11 := ((fb11.has).ext xvba).ext xvbac
            have ge10 : wr.drew.heap.size ≤ b10 := Nat.le_trans (Ext.size evb) fb10.ge
            have ge11 : wr.drew.heap.size ≤ b11 := Nat.le_trans (Ext.size hE) fb11.ge
            have hlt2 : b11 < b10 := Nat.lt_of_lt_of_le (HasBox.lt (fb11.has)) fb10.ge
            have hne : b10 ≠ b11 := by omega
            rw [HN0.out] at h10
            refine wpAnyH_ready (rs := [20]) (by kernel_rfl) (by simp) ?_
            refine AllReadyH.cons rfl (fun K hK => ?_) AllReadyH.nil
            refine step_store 24 (bcells K2) b10 HSK.out HOK.out h10 rfl _ _ rfl rfl rfl rfl ?_
            intro vS sS
            have eS : Ext wr.drew vS := sS.below _ _ ge10 evbac
            refine hK.out _ _ eS (fun hHeld => ?_)
            clear hK K
            refine wpAnyH_ready (rs := [21]) (by kernel_rfl) (by simp) ?_
            refine AllReadyH.cons rfl (fun K hK => ?_) AllReadyH.nil
            refine step_store 41 (tc s0 s1 s2) b11 (sizeT3 _ _ _) (tc_one _ _ _) (h11.other (sS.other _ hne.symm)) rfl _ _ rfl rfl rfl rfl ?_
            intro vT sT
            have eT : Ext wr.drew vT := sT.below _ _ ge11 eS
            refine hK.out _ _ eT (fun hHeld => ?_)
            clear hK K
            refine wpAnyH_take (i := 22) (oi := { dst := some 12, op := Go.Op.assign (Go.Operand.tmp 51), type := 4, pos := _, after := #[{ on := 17, ground := Go.Ground.data }, { on := 21, ground := Go.Ground.chain }, { on := 0, ground := Go.Ground.phase }, { on := 1, ground := Go.Ground.phase }, { on := 2, ground := Go.Ground.phase }, { on := 3, ground := Go.Ground.phase }, { on := 4, ground := Go.Ground.phase }, { on := 5, ground := Go.Ground.phase }, { on := 6, ground := Go.Ground.phase }, { on := 7, ground := Go.Ground.phase }, { on := 8, ground := Go.Ground.phase }, { on := 9, ground := Go.Ground.phase }, { on := 10, ground := Go.Ground.phase }, { on := 11, ground := Go.Ground.phase }, { on := 12, ground := Go.Ground.phase }, { on := 13, ground := Go.Ground.phase }, { on := 14, ground := Go.Ground.phase }, { on := 15, ground := Go.Ground.phase }, { on := 16, ground := Go.Ground.phase }, { on := 17, ground := Go.Ground.phase }, { on := 18, ground := Go.Ground.phase }, { on := 19, ground := Go.Ground.phase }, { on := 20, ground := Go.Ground.phase }, { on := 21, ground := Go.Ground.phase }], guard := none }) (v := .bool due) rfl (by kernel_rfl) (by kernel_rfl) (by kernel_rfl) (fun _ _ _ h => h) (Or.inl ⟨by rfl, fun w' hSw => ?_⟩) (by assumption) ?_
            · (try dsimp only at hSw); go_simp
            (try simp only [Act.put]); (try simp only [List.setIfInBounds_toArray]); (try simp only [List.set_cons_succ]); (try simp only [List.set_cons_zero])
            refine wpAnyH_done (by kernel_rfl) ?_ _
            refine NoPanic.normal ?_
            exact REST b10 b11 s0 s1 s2 due vT eT ge10 ge11 hne (sT.keep sS.box hne) sT.box hout
          exact AllReadyH.nil
        exact AllReadyH.nil
      exact AllReadyH.nil
    · have hRU : run k s = (K', S') := by
        have h := HRU.out
        rw [List.take_of_length_le (by omega)] at h
        exact h
      have hj : ¬ (i : Int) < (S.size : Int) := by have := HSZ.out; omega
      have HLK : Hid ((bcells K').length = 38) := by rw [bcells_length, HKL.out]; rfl
      have HRT : Hid (RK ((run k s).1, (run k s).2, 0) = .tuple #[.agg (bcells K').toArray, .string (bs S'), .int .i64 0]) := by rw [Hid, hRU]; rfl
      have hKH : Holds (.agg (bcells K').toArray) 38 := KV.holds K' HKL.out
      have hS : SE2 wr.drew w1.heap.size w2.heap.size u8 S' wr.drew := ⟨Below.refl _ _, ⟨_, HB4.out.drew, rfl⟩, HO.out⟩
      have x0 := HB0.out.drew
      have hl0 : ∀ w', SE2 wr.drew w1.heap.size w2.heap.size u8 S' w' → Lies w' (.pointer (some ⟨w.heap.size, 0, none⟩)) 38 := fun w' h => (x0.below h.1 z1).lies0 HLK.out
      have hr0 : ∀ w', SE2 wr.drew w1.heap.size w2.heap.size u8 S' w' → Q.rowAt w' (.pointer (some ⟨w.heap.size, 0, none⟩)) 38 = bcells K' := fun w' h => (x0.below h.1 z1).row0 HLK.out
      have hl4 : ∀ w', SE2 wr.drew w1.heap.size w2.heap.size u8 S' w' → Lies w' (.pointer (some ⟨w1.heap.size, 0, none⟩)) 38 := fun w' h => h.2.1.lies
      have hcv : ∀ w', SE2 wr.drew w1.heap.size w2.heap.size u8 S' w' → (convert 36 9 u8).run Try.prog w' = .ok (.string (bs S')) w' := fun w' h => run_str h.2.2
      have V := hS.2.1.put (bcells K') HLK.out
      have V4 := Hid.mk' V.box
      have VL := Hid.mk' (V.below w.heap.size w (Nat.le_of_lt z1) HBL.out.drew)
      clear x0 V HRU HB0 HB4 HBL hRU
      go_wp2_with fail
      go_region_held3 (fun w' => SE2 wr.drew w1.heap.size w2.heap.size u8 S' w') (first | with_reducible assumption | (with_reducible refine SE2.put (by with_reducible assumption) z2 _ (by exact HLK.out))) (fail)
      go_wp2
      exact ret_box3 Try.results9 24 (bcells K') w1.heap.size _ Try.underlying24 rfl (by rw [HLK.out]; exact sizeK) _ _ rfl rfl rfl V4.out rfl ⟨by rw [HRT.out]; rfl, VL.out⟩
end Go.Proofs.Ytfipmggdpigbkaa.K
