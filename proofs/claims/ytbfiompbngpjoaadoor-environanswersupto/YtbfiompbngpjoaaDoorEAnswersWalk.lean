/-
  Contract of farref.VarsAnswer, and the walk of farlaw.EnvironAnswers: it returns true; conditions: at most 1048576 variables, an int tells the text's length, and the variable internal/bytealg.MaxLen holds some int.
-/
import Derived.Test.YtbfiompbngpjoaaDoorEVAns
namespace Go.Proofs.YtbfiompbngpjoaaDoor.E
open Go.RowKit Go.Lib Go.Proofs.YtbfiompbngpjoaaDoor Go.Proofs.YtbfiompbngpjoaaDoor.W Go.Proofs.YtbfiompbngpjoaaDoor.Q Go.Proofs.YtbfiompbngpjoaaDoor.C

def AO (w : World) (l m : List Vr) (g : Nat) (s8 s33 : Value) (wr : World) : Prop :=
  ∃ (k n : Nat) (P : List Vr) (ad : Option Addr) (cap : Nat), k ≤ m.length ∧ m.length - k ≤ g ∧ s33 = .int .i64 (k : Int) ∧ s8 = .slice ad n cap ∧ Hid (n = P.length) ∧ Hid (OwnV wr w.heap.size ad cap P) ∧ Hid (P = pickT l (m.take k)) ∧ Hid (Below w.heap.size w wr)
def AI (w : World) (l Q : List Vr) (x : Vr) (b10 : Nat) (g : Nat) (s8 s11 s39 : Value) (wr : World) : Prop :=
  ∃ (j n c : Nat) (P : List Vr) (ad : Option Addr) (cap : Nat), j ≤ l.length ∧ l.length - j ≤ g ∧ s39 = .int .i64 (j : Int) ∧ s8 = .slice ad n cap ∧ s11 = .int .i64 (c : Int) ∧ c ≤ 1048576 ∧ Hid (c = (hits x (l.take j)).length) ∧ Hid (n = P.length) ∧ Hid (OwnV wr w.heap.size ad cap P) ∧ Hid (P = Q ++ hits x (l.take j)) ∧ Hid (Below w.heap.size w wr) ∧ Hid (Box wr b10 30 (vcells x)) ∧ Hid (ad ≠ some ⟨b10, 0, none⟩)

set_option maxHeartbeats 4000000 in
set_option maxRecDepth 100000 in
theorem VAnswer_form (w : World) (v : Value) (l : List Vr) (d : List UInt8) (hz : d.length ≤ 9223372036854775807) (h : (cutP d).2 = false) (ha : answerT l d = ([], 4)) :
    Calls Tryd.prog 13 #[v, .string (bs d)] w fun e w' => e = .returned (.tuple #[.string (bs (answerT l d).1), .int .i64 (answerT l d).2]) ∧ Below w.heap.size w w' := by
  have H1 := Hid.mk' (HasPrefix_one d w hz)
  rw [ha, show bs [] = ⟨#[]⟩ from rfl]
  rw [h] at H1
  generalize bs d = D at *
  go_enter Tryd.func13, Tryd.ntmps13
  go_wp2_with fail
  refine H1.out.mono ?_
  rintro e w1 ⟨rfl, rfl⟩
  go_wp2
  go_ret2
  exact ⟨rfl, Below.refl _ _⟩

set_option maxHeartbeats 4000000 in
set_option maxRecDepth 100000 in
theorem VAnswer_want (w : World) (v : Value) (l : List Vr) (ask : List UInt8) (mx : Int) (hm : w.cell? ⟨0, 0, none⟩ = some (.int .i64 mx)) (hz : ask.length + 1 ≤ 9223372036854775807) (r : Int) (h : wantedT ask = ([], r)) (hr : (r == 0) = false) :
    Calls Tryd.prog 13 #[v, .string (bs (1 :: ask))] w fun e w' => e = .returned (.tuple #[.string (bs (answerT l (1 :: ask)).1), .int .i64 (answerT l (1 :: ask)).2]) ∧ Below w.heap.size w w' := by
  have h00 : 0 < w.heap.size := World.block_lt_of_cell? _ _ hm
  have H1 := Hid.mk' (HasPrefix_one (1 :: ask) w (by simpa using hz))
  rw [show (cutP (1 :: ask)).2 = true from rfl] at H1
  have H2 := Hid.mk' (WantedVars_any ask mx w (by omega) hm)
  rw [h] at H2
  dsimp only at H2
  have hszr : (bs (1 :: ask)).size = ask.length + 1 := by rw [bs_size]; rfl
  have hxd : (bs (1 :: ask)).extract 1 (ask.length + 1) = bs ask := by rw [← hszr, bs_drop]; rfl
  have ha : answerT l (1 :: ask) = ([], r) := by
    rw [answerT_one, h]
    simp only
    rw [if_neg (by intro e; subst e; cases hr)]
  rw [ha, show bs [] = ⟨#[]⟩ from rfl]
  clear hm h00
  generalize bs (1 :: ask) = D at *
  generalize bs ask = K at *
  go_enter Tryd.func13, Tryd.ntmps13
  go_wp2_with fail
  refine H1.out.mono ?_
  rintro e w1 ⟨rfl, rfl⟩
  go_wp2_with fail
  refine H2.out.mono ?_
  rintro e w2 ⟨ad, cap, rfl, _, hb2⟩
  have HB2 := Hid.mk' hb2
  clear hb2 H2
  go_wp2
  go_ret2
  exact ⟨rfl, HB2.out⟩

set_option maxHeartbeats 32000000 in
set_option maxRecDepth 100000 in
theorem VAnswer_all_ok (w : World) (v : Value) (l : List Vr) (ask : List UInt8) (mx : Int) (hm : w.cell? ⟨0, 0, none⟩ = some (.int .i64 mx)) (hv : RdV w v l) (hn : l.length ≤ 1048576) (hz : ask.length + 1 ≤ 9223372036854775807) (h : wantedT ask = ([], 0)) (T : List UInt8) (hT : writeT l = (T, 0)) (hTl : T.length ≤ 16040) :
    Calls Tryd.prog 13 #[v, .string (bs (1 :: ask))] w fun e w' => e = .returned (.tuple #[.string (bs (answerT l (1 :: ask)).1), .int .i64 (answerT l (1 :: ask)).2]) ∧ Below w.heap.size w w' := by
  have h00 : 0 < w.heap.size := World.block_lt_of_cell? _ _ hm
  have H1 := Hid.mk' (HasPrefix_one (1 :: ask) w (by simpa using hz))
  rw [show (cutP (1 :: ask)).2 = true from rfl] at H1
  have H2 := Hid.mk' (WantedVars_any ask mx w (by omega) hm)
  rw [h] at H2
  dsimp only at H2
  have hszr : (bs (1 :: ask)).size = ask.length + 1 := by rw [bs_size]; rfl
  have hxd : (bs (1 :: ask)).extract 1 (ask.length + 1) = bs ask := by rw [← hszr, bs_drop]; rfl
  have ha : answerT l (1 :: ask) = (0 :: T, 0) := by
    rw [answerT_one, h]
    simp only [if_true]
    rw [toldT, if_pos rfl]
    exact sayT_ok hT
  rw [ha]
  dsimp only
  have H3 : Hid (∀ W v' L, Below w.heap.size w W → RdV W v' L → L.length ≤ 100000000 → writeT L = writeT l → Calls Tryd.prog 6 #[v'] W fun e w' => e = .returned (.tuple #[.string (bs T), .int .i64 0]) ∧ Below W.heap.size W w') := fun W v' L hW hR hL he => by
    have := VarsText_any W v' L mx hR (by omega) ((hW.cell (p := ⟨0, 0, none⟩) h00).trans hm)
    rw [he, hT] at this
    exact this
  have HBP : Hid (∀ (W : World), Calls Tryd.prog 16 #[.slice (some ⟨W.heap.size, 0, none⟩) 1 1] (W.alloc (.cells #[.int .i64 0] 3)) fun e w' => e = .returned (.string ⟨#[0]⟩) ∧ Below W.heap.size W w') := fun W => Bytes_plain 0 W
  have hcat : (⟨#[0]⟩ : ByteArray) ++ bs T = bs (0 :: T) := bs_app [0] T
  have hTz : (bs T).size ≤ 16040 := by rw [bs_size]; exact hTl
  generalize bs (0 :: T) = T0 at *
  generalize bs T = T1 at *
  generalize bs (1 :: ask) = D at *
  generalize bs ask = K at *
  clear h ha hT hm h00
  have HV := Hid.mk' hv
  obtain ⟨a0, c0, rfl, hc0, hr0⟩ := hv
  clear hr0
  go_enter Tryd.func13, Tryd.ntmps13
  go_wp2_with fail
  refine H1.out.mono ?_
  rintro e w1 ⟨rfl, rfl⟩
  go_wp2_with fail
  refine H2.out.mono ?_
  rintro e w2 ⟨ad, cap, rfl, _, hb2⟩
  have HB2 := Hid.mk' hb2
  have HW := Hid.mk' (H3.out w2 _ l HB2.out (HV.out.below HB2.out (Nat.le_refl _)) (by omega) rfl)
  clear hb2 H2 H3 HV
  go_wp2_with fail
  go_loopg [8, 33] 0 (fun g s8 s33 wr => s8 = .slice a0 l.length c0 ∧ s33 = .int .i64 0 ∧ wr = w2)
  case atStart => exact ⟨rfl, rfl, rfl⟩
  case round =>
    obtain ⟨rfl, rfl, rfl⟩ := hrel
    go_wp2_with fail
    refine HW.out.mono ?_
    rintro e w7 ⟨rfl, hb7⟩
    have HB7 := Hid.mk' (HB2.out.trans (hb7.mono HB2.out.size))
    clear hb7 HW
    go_wp2_with fail
    refine (HBP.out w7).mono ?_
    rintro e w8 ⟨rfl, hb8⟩
    have HB8 := Hid.mk' (HB7.out.trans (hb8.mono HB7.out.size))
    clear hb8 HB7
    go_wp2
    go_ret2
    exact ⟨rfl, HB8.out⟩

set_option maxHeartbeats 32000000 in
set_option maxRecDepth 100000 in
theorem VAnswer_all_no (w : World) (v : Value) (l : List Vr) (ask : List UInt8) (mx : Int) (hm : w.cell? ⟨0, 0, none⟩ = some (.int .i64 mx)) (hv : RdV w v l) (hn : l.length ≤ 1048576) (hz : ask.length + 1 ≤ 9223372036854775807) (h : wantedT ask = ([], 0)) (r : Int) (hT : writeT l = ([], r)) (hr : (r == 0) = false) :
    Calls Tryd.prog 13 #[v, .string (bs (1 :: ask))] w fun e w' => e = .returned (.tuple #[.string (bs (answerT l (1 :: ask)).1), .int .i64 (answerT l (1 :: ask)).2]) ∧ Below w.heap.size w w' := by
  have h00 : 0 < w.heap.size := World.block_lt_of_cell? _ _ hm
  have H1 := Hid.mk' (HasPrefix_one (1 :: ask) w (by simpa using hz))
  rw [show (cutP (1 :: ask)).2 = true from rfl] at H1
  have H2 := Hid.mk' (WantedVars_any ask mx w (by omega) hm)
  rw [h] at H2
  dsimp only at H2
  have hszr : (bs (1 :: ask)).size = ask.length + 1 := by rw [bs_size]; rfl
  have hxd : (bs (1 :: ask)).extract 1 (ask.length + 1) = bs ask := by rw [← hszr, bs_drop]; rfl
  have ha : answerT l (1 :: ask) = ([], r) := by
    rw [answerT_one, h]
    simp only [if_true]
    rw [toldT, if_pos rfl]
    exact sayT_no hT hr
  rw [ha]
  dsimp only
  have H3 : Hid (∀ W v' L, Below w.heap.size w W → RdV W v' L → L.length ≤ 100000000 → writeT L = writeT l → Calls Tryd.prog 6 #[v'] W fun e w' => e = .returned (.tuple #[.string ⟨#[]⟩, .int .i64 r]) ∧ Below W.heap.size W w') := fun W v' L hW hR hL he => by
    have := VarsText_any W v' L mx hR (by omega) ((hW.cell (p := ⟨0, 0, none⟩) h00).trans hm)
    rw [he, hT] at this
    exact this
  generalize bs (1 :: ask) = D at *
  generalize bs ask = K at *
  clear h ha hT hm h00
  have HV := Hid.mk' hv
  obtain ⟨a0, c0, rfl, hc0, hr0⟩ := hv
  clear hr0
  go_enter Tryd.func13, Tryd.ntmps13
  go_wp2_with fail
  refine H1.out.mono ?_
  rintro e w1 ⟨rfl, rfl⟩
  go_wp2_with fail
  refine H2.out.mono ?_
  rintro e w2 ⟨ad, cap, rfl, _, hb2⟩
  have HB2 := Hid.mk' hb2
  have HW := Hid.mk' (H3.out w2 _ l HB2.out (HV.out.below HB2.out (Nat.le_refl _)) (by omega) rfl)
  clear hb2 H2 H3 HV
  go_wp2_with fail
  go_loopg [8, 33] 0 (fun g s8 s33 wr => s8 = .slice a0 l.length c0 ∧ s33 = .int .i64 0 ∧ wr = w2)
  case atStart => exact ⟨rfl, rfl, rfl⟩
  case round =>
    obtain ⟨rfl, rfl, rfl⟩ := hrel
    go_wp2_with fail
    refine HW.out.mono ?_
    rintro e w7 ⟨rfl, hb7⟩
    have HB7 := Hid.mk' (HB2.out.trans (hb7.mono HB2.out.size))
    clear hb7 HW
    go_wp2
    go_ret2
    exact ⟨rfl, HB7.out⟩

set_option maxHeartbeats 32000000 in
set_option maxRecDepth 100000 in
theorem VAnswer_some_ok (w : World) (v : Value) (l : List Vr) (ask : List UInt8) (mx : Int) (hm : w.cell? ⟨0, 0, none⟩ = some (.int .i64 mx)) (hv : RdV w v l) (hn : l.length ≤ 1048576) (hz : ask.length + 1 ≤ 9223372036854775807) (m : List Vr) (h : wantedT ask = (m, 0)) (hmne : m ≠ []) (hm20 : m.length ≤ 20) (T : List UInt8) (hT : writeT (pickT l m) = (T, 0)) (hTl : T.length ≤ 16040) :
    Calls Tryd.prog 13 #[v, .string (bs (1 :: ask))] w fun e w' => e = .returned (.tuple #[.string (bs (answerT l (1 :: ask)).1), .int .i64 (answerT l (1 :: ask)).2]) ∧ Below w.heap.size w w' := by
  have h00 : 0 < w.heap.size := World.block_lt_of_cell? _ _ hm
  have H1 := Hid.mk' (HasPrefix_one (1 :: ask) w (by simpa using hz))
  rw [show (cutP (1 :: ask)).2 = true from rfl] at H1
  have H2 := Hid.mk' (WantedVars_any ask mx w (by omega) hm)
  rw [h] at H2
  dsimp only at H2
  have hszr : (bs (1 :: ask)).size = ask.length + 1 := by rw [bs_size]; rfl
  have hxd : (bs (1 :: ask)).extract 1 (ask.length + 1) = bs ask := by rw [← hszr, bs_drop]; rfl
  have ha : answerT l (1 :: ask) = (0 :: T, 0) := by
    rw [answerT_one, h]
    simp only [if_true]
    rw [toldT, if_neg hmne]
    exact sayT_ok hT
  rw [ha]
  dsimp only
  have H3 : Hid (∀ W v' L, Below w.heap.size w W → RdV W v' L → L.length ≤ 100000000 → writeT L = writeT (pickT l m) → Calls Tryd.prog 6 #[v'] W fun e w' => e = .returned (.tuple #[.string (bs T), .int .i64 0]) ∧ Below W.heap.size W w') := fun W v' L hW hR hL he => by
    have := VarsText_any W v' L mx hR (by omega) ((hW.cell (p := ⟨0, 0, none⟩) h00).trans hm)
    rw [he, hT] at this
    exact this
  have HBP : Hid (∀ (W : World), Calls Tryd.prog 16 #[.slice (some ⟨W.heap.size, 0, none⟩) 1 1] (W.alloc (.cells #[.int .i64 0] 3)) fun e w' => e = .returned (.string ⟨#[0]⟩) ∧ Below W.heap.size W w') := fun W => Bytes_plain 0 W
  have hcat : (⟨#[0]⟩ : ByteArray) ++ bs T = bs (0 :: T) := bs_app [0] T
  have hTz : (bs T).size ≤ 16040 := by rw [bs_size]; exact hTl
  generalize bs (0 :: T) = T0 at *
  generalize bs T = T1 at *
  generalize bs (1 :: ask) = D at *
  generalize bs ask = K at *
  clear h ha hT hm h00
  have hv0 := hv
  have HV := Hid.mk' hv0
  obtain ⟨a, c, rfl, hc, hr⟩ := hv
  clear hv0
  have hmp : 0 < m.length := by
    cases m with
    | nil => exact absurd rfl hmne
    | cons a t => simp
  have hml0 : ((m.length : Int) == 0) = false := by rw [beq_eq_false_iff_ne]; omega
  have hml1 : ¬ (m.length : Int) = 0 := by omega
  have HPL : Hid (∀ k, (pickT l (m.take k)).length ≤ 20971540) := fun k => by
    have h1 := pick_len l hn (m.take k)
    have h2 : (m.take k).length ≤ 20 := by rw [List.length_take]; omega
    omega
  go_enter Tryd.func13, Tryd.ntmps13
  go_wp2_with fail
  refine H1.out.mono ?_
  rintro e w1 ⟨rfl, rfl⟩
  go_wp2_with fail
  refine H2.out.mono ?_
  rintro e w2 ⟨adm, capm, rfl, hom, hb2⟩
  have HB2 := Hid.mk' hb2
  have hs2 := HB2.out.size
  have HOM := Hid.mk' hom
  clear hb2 H2 hom H1 hmne
  obtain ⟨am, cm, em, hcm, hrm⟩ := HOM.out.rd
  simp only [Value.slice.injEq] at em
  obtain ⟨rfl, _, rfl⟩ := em
  clear HOM
  go_wp2_with fail
  go_loopg [8, 33] m.length (fun g s8 s33 wr => AO w2 l m g s8 s33 wr)
  case atStart => exact ⟨0, 0, [], none, 0, Nat.zero_le _, by omega, rfl, rfl, rfl, OwnV.nil _ _, rfl, Below.refl _ _⟩
  case round =>
    obtain ⟨k, n, P, ad, cap, hk, hg, rfl, rfl, HL, HO, HP, HB⟩ := hrel
    obtain ⟨wo, hwo⟩ : ∃ wo, wo = wr := ⟨_, rfl⟩
    subst hwo
    have hbs := HB.out.size
    have hpl : P.length ≤ 20971540 := by rw [HP.out]; exact HPL.out k
    by_cases hlt : k < m.length
    · rcases hrm with h0 | ⟨b2, o2, rfl, tm, hbm⟩
      · subst h0; simp at hlt
      obtain ⟨p0, p1, p2, p3⟩ := (tm k hlt).below HB.out hbm
      have HA := fun cs => Hid.mk' (HB.out.alloc hbs (.cells cs 30))
      have HOA := fun cs => Hid.mk' (HO.out.below ((Below.refl wo.heap.size wo).alloc (Nat.le_refl _) (.cells cs 30)))
      have HX0 : Hid (Box (wo.alloc (.cells #[.string (bs m[k].name), .string (bs m[k].value), .bool m[k].user, .bool m[k].set] 30)) wo.heap.size 30 (vcells m[k])) := Box.new wo 30 (vcells m[k])
      have hne : ad ≠ some ⟨wo.heap.size, 0, none⟩ := fun e => by
        have := HO.out
        unfold OwnV at this
        have := (this.lt wo.heap.size (by rw [e]; rfl)).2
        omega
      have HST : Hid (AI w2 l P m[k] wo.heap.size l.length (.slice ad n cap) (.int .i64 0) (.int .i64 0) (wo.alloc (.cells #[.string (bs m[k].name), .string (bs m[k].value), .bool m[k].user, .bool m[k].set] 30))) :=
        ⟨0, n, 0, P, ad, cap, Nat.zero_le _, by omega, rfl, rfl, rfl, by omega, by rw [hits_zero]; exact Hid.mk' rfl, HL, (HOA _).out, by rw [hits_zero, List.append_nil]; exact Hid.mk' rfl, (HA _).out, HX0.out, hne⟩
      have HPN := Hid.mk' (pick_next (l := l) hlt)
      rw [← HP.out] at HPN
      clear HP HO HB HOA HA HX0 hne tm H3 
      generalize hx : m[k] = x at *
      clear hx
      have hvn : vcells x = [.string (bs x.name), .string (bs x.value), .bool x.user, .bool x.set] := rfl
      have HVN := Hid.mk' hvn
      clear hvn
      generalize hz0 : bs x.name = z0 at *
      have HZ0 := Hid.mk' hz0
      clear hz0
      go_wp2_with fail
      go_loopg [8, 11, 39] l.length (fun g s8 s11 s39 wr => AI w2 l P x wo.heap.size g s8 s11 s39 wr)
      case atStart => exact HST.out
      case round =>
        obtain ⟨j, N, cc, P', ad', cap', hj, hgj, rfl, rfl, rfl, hcc, HCC, HL', HO', HP', HB', HX', HNE⟩ := hrel
        clear HST
        have hbs' := HB'.out.size
        have hb7 := HX'.out.lt
        have hhl := hits_len x (l.take j)
        have hpl' : P'.length ≤ 1099511627776 := by
          rw [HP'.out, List.length_append]
          have : (l.take j).length ≤ l.length := by rw [List.length_take]; omega
          omega
        by_cases hjl : j < l.length
        · rcases hr with h0 | ⟨b, o, rfl, t, hb⟩
          · subst h0; simp at hjl
          obtain ⟨y0, y1, y2, y3⟩ := (t j hjl).below (HB2.out.trans (HB'.out.mono hs2)) hb
          have HA := fun cs => Hid.mk' (HB'.out.alloc hbs' (.cells cs 30))
          have HXA := fun cs => Hid.mk' (HX'.out.alloc (.cells cs 30))
          have HOA := fun cs => Hid.mk' (HO'.out.below ((Below.refl wr.heap.size wr).alloc (Nat.le_refl _) (.cells cs 30)))
          have x0 := fun o => alloc_cell o (HX'.out.cell (j := 0) rfl) hb7
          have x2 := fun o => alloc_cell o (HX'.out.cell (j := 2) rfl) hb7
          rw [HZ0.out] at x0
          clear hhl t
          by_cases hu : l[j].user = x.user
          · by_cases hxn : x.name = []
            · have HP2 : Hid (∀ P2, P2 = P' ++ [l[j]] → P2 = P ++ hits x (l.take (j + 1))) := fun P2 h => by rw [h, HP'.out, hits_put1 hjl hu hxn, List.append_assoc]
              have HC2 : Hid (cc + 1 = (hits x (l.take (j + 1))).length) := by rw [hits_put1 hjl hu hxn, List.length_append, ← HCC.out]; exact Hid.mk' rfl
              have hE : z0.toList.isEmpty = true := by rw [← HZ0.out, bs_list, hxn]; rfl
              have HW : Hid (#[.string (bs l[j].name), .string (bs l[j].value), .bool l[j].user, .bool l[j].set] = (vcells l[j]).toArray) := Hid.mk' rfl
              rw [← hu] at x2
              clear HP' HO' HB' HX' hu HL HCC HVN HZ0 HPN
              generalize bs l[j].name = q0 at *
              generalize bs l[j].value = q1 at *
              generalize hq2 : l[j].user = q2 at *
              generalize l[j].set = q3 at *
              clear hq2
              go_wp2_with (at_builtin; refine wpList_append_v3 _ (by rfl) _ _ rfl w2.heap.size ad' cap' P' N rfl HL'.out (HOA _).out l[j] _ HW.out _ _ rfl (World.size_alloc _ _).symm (by rw [World.size_alloc]; omega) hpl' ?_)
              intro ad5 cap5 l5 w5 hl5 ho5 hb5 hk5 hn5
              have HB5 := Hid.mk' (hb5 _ _ (Nat.le_refl _) (HA _).out)
              have HX5 := Hid.mk' ((HXA _).out.kept (hk5 wo.heap.size (by omega) HNE.out))
              have HN5 : Hid (ad5 ≠ some ⟨wo.heap.size, 0, none⟩) := fun e => by
                rcases hn5 with h | ⟨g, h, h2⟩
                · exact HNE.out (h.symm.trans e)
                · rw [h] at e
                  simp only [Option.some.injEq, Addr.mk.injEq] at e
                  omega
              have HLL : Hid (∃ N5 : Nat, l5.length = N5 ∧ Hid (N5 = l5.length)) := ⟨l5.length, rfl, rfl⟩
              obtain ⟨N5, hN5, HN5L⟩ := HLL.out
              have HO5 := Hid.mk' ho5
              have HP5 := Hid.mk' (HP2.out l5 hl5.out)
              rw [hN5]
              have hc6 : cc + 1 ≤ 1048576 := by
                have h1 := HC2.out
                have h2 := hits_len x (l.take (j + 1))
                have h3 : (l.take (j + 1)).length ≤ l.length := by rw [List.length_take]; omega
                omega
              clear ho5 hb5 hk5 hn5 hl5 HLL HOA HA HXA HW HP2 hN5 HNE HL'
              go_wp2
              go_roundg (l.length - (j + 1))
              case measure => omega
              case rel => exact ⟨j + 1, N5, cc + 1, l5, ad5, cap5, by omega, by omega, by go_num, rfl, by go_num, hc6, HC2, HN5L, HO5, HP5, HB5, HX5, HN5⟩
            · have hE : z0.toList.isEmpty = false := by
                rw [← HZ0.out, bs_list]
                cases hv : x.name with
                | nil => exact absurd hv hxn
                | cons a t => rfl
              by_cases hnm : l[j].name = x.name
              · have hq : ((bs l[j].name).toList == z0.toList) = true := by rw [← HZ0.out, bs_beq]; exact decide_eq_true hnm
                by_cases hc0 : cc = 0
                · have HP2 : Hid (∀ P2, P2 = P' ++ [l[j]] → P2 = P ++ hits x (l.take (j + 1))) := fun P2 h => by rw [h, HP'.out, hits_put2 hjl hu hxn hnm (by rw [← HCC.out]; exact hc0), List.append_assoc]
                  have HC2 : Hid (cc + 1 = (hits x (l.take (j + 1))).length) := by rw [hits_put2 hjl hu hxn hnm (by rw [← HCC.out]; exact hc0), List.length_append, ← HCC.out]; exact Hid.mk' rfl
                  have hcb : ((cc : Int) == 0) = true := by rw [hc0]; rfl
                  have hcb' : (cc : Int) = 0 := by omega
                  have HW : Hid (#[.string (bs l[j].name), .string (bs l[j].value), .bool l[j].user, .bool l[j].set] = (vcells l[j]).toArray) := Hid.mk' rfl
                  rw [← hu] at x2
                  clear HP' HO' HB' HX' hu HL HCC HVN HZ0 HPN
                  generalize bs l[j].name = q0 at *
                  generalize bs l[j].value = q1 at *
                  generalize hq2 : l[j].user = q2 at *
                  generalize l[j].set = q3 at *
                  clear hq2
                  go_wp2_with (at_builtin; refine wpList_append_v3 _ (by rfl) _ _ rfl w2.heap.size ad' cap' P' N rfl HL'.out (HOA _).out l[j] _ HW.out _ _ rfl (World.size_alloc _ _).symm (by rw [World.size_alloc]; omega) hpl' ?_)
                  intro ad5 cap5 l5 w5 hl5 ho5 hb5 hk5 hn5
                  have HB5 := Hid.mk' (hb5 _ _ (Nat.le_refl _) (HA _).out)
                  have HX5 := Hid.mk' ((HXA _).out.kept (hk5 wo.heap.size (by omega) HNE.out))
                  have HN5 : Hid (ad5 ≠ some ⟨wo.heap.size, 0, none⟩) := fun e => by
                    rcases hn5 with h | ⟨g, h, h2⟩
                    · exact HNE.out (h.symm.trans e)
                    · rw [h] at e
                      simp only [Option.some.injEq, Addr.mk.injEq] at e
                      omega
                  have HLL : Hid (∃ N5 : Nat, l5.length = N5 ∧ Hid (N5 = l5.length)) := ⟨l5.length, rfl, rfl⟩
                  obtain ⟨N5, hN5, HN5L⟩ := HLL.out
                  have HO5 := Hid.mk' ho5
                  have HP5 := Hid.mk' (HP2.out l5 hl5.out)
                  rw [hN5]
                  have hc6 : cc + 1 ≤ 1048576 := by
                    have h1 := HC2.out
                    have h2 := hits_len x (l.take (j + 1))
                    have h3 : (l.take (j + 1)).length ≤ l.length := by rw [List.length_take]; omega
                    omega
                  clear ho5 hb5 hk5 hn5 hl5 HLL HOA HA HXA HW HP2 hN5 HNE HL'
                  go_wp2
                  go_roundg (l.length - (j + 1))
                  case measure => omega
                  case rel => exact ⟨j + 1, N5, cc + 1, l5, ad5, cap5, by omega, by omega, by go_num, rfl, by go_num, hc6, HC2, HN5L, HO5, HP5, HB5, HX5, HN5⟩
                · have HP2 : Hid (P' = P ++ hits x (l.take (j + 1))) := by rw [hits_skip3 hjl hxn (by rw [← HCC.out]; exact hc0)]; exact HP'
                  have HC2 : Hid (cc = (hits x (l.take (j + 1))).length) := by rw [hits_skip3 hjl hxn (by rw [← HCC.out]; exact hc0)]; exact HCC
                  have hcb : ((cc : Int) == 0) = false := by rw [beq_eq_false_iff_ne]; omega
                  have hcb' : ¬ (cc : Int) = 0 := by omega
                  rw [← hu] at x2
                  clear HP' HO' HB' HX' HL HCC HVN HZ0 HPN hu hnm hc0
                  generalize bs l[j].name = q0 at *
                  generalize bs l[j].value = q1 at *
                  generalize l[j].user = q2 at *
                  generalize x.user = xu at *
                  generalize l[j].set = q3 at *
                  go_wp2
                  go_roundg (l.length - (j + 1))
                  case measure => omega
                  case rel => exact ⟨j + 1, N, cc, P', ad', cap', by omega, by omega, by go_num, rfl, rfl, hcc, HC2, HL', HOA _, HP2, HA _, HXA _, HNE⟩
              · have HP2 : Hid (P' = P ++ hits x (l.take (j + 1))) := by rw [hits_skip2 hjl hxn hnm]; exact HP'
                have HC2 : Hid (cc = (hits x (l.take (j + 1))).length) := by rw [hits_skip2 hjl hxn hnm]; exact HCC
                have hq : ((bs l[j].name).toList == z0.toList) = false := by rw [← HZ0.out, bs_beq]; exact decide_eq_false hnm
                rw [← hu] at x2
                clear HP' HO' HB' HX' HL HCC HVN HZ0 HPN hnm hu
                generalize bs l[j].name = q0 at *
                generalize bs l[j].value = q1 at *
                generalize l[j].user = q2 at *
                generalize l[j].set = q3 at *
                generalize x.user = xu at *
                go_wp2
                go_roundg (l.length - (j + 1))
                case measure => omega
                case rel => exact ⟨j + 1, N, cc, P', ad', cap', by omega, by omega, by go_num, rfl, rfl, hcc, HC2, HL', HOA _, HP2, HA _, HXA _, HNE⟩
          · have HP2 : Hid (P' = P ++ hits x (l.take (j + 1))) := by rw [hits_skip1 hjl hu]; exact HP'
            have HC2 : Hid (cc = (hits x (l.take (j + 1))).length) := by rw [hits_skip1 hjl hu]; exact HCC
            have hub : (l[j].user == x.user) = false := beq_eq_false_iff_ne.2 hu
            clear HP' HO' HB' HX' HL HCC HVN HZ0 HPN hu
            generalize bs l[j].name = q0 at *
            generalize bs l[j].value = q1 at *
            generalize l[j].user = q2 at *
            generalize l[j].set = q3 at *
            generalize x.user = xu at *
            go_wp2
            go_roundg (l.length - (j + 1))
            case measure => omega
            case rel => exact ⟨j + 1, N, cc, P', ad', cap', by omega, by omega, by go_num, rfl, rfl, hcc, HC2, HL', HOA _, HP2, HA _, HXA _, HNE⟩
        · obtain rfl : j = l.length := by omega
          have hCo := HCC.out
          rw [List.take_length] at hCo
          have x0 := HX'.out.cell (j := 0) rfl
          have x1 := HX'.out.cell (j := 1) rfl
          have x2 := HX'.out.cell (j := 2) rfl
          have x3 := HX'.out.cell (j := 3) rfl
          rw [HZ0.out] at x0
          by_cases hfin : cc = 0 ∧ x.name ≠ []
          · have HP2 : Hid (∀ P2, P2 = P' ++ [x] → P2 = pickT l (m.take (k + 1))) := fun P2 h => by
              rw [h, HPN.out, HP'.out, List.take_length, one_none hfin.2 (by rw [← hCo]; exact hfin.1), List.length_eq_zero_iff.1 (show (hits x l).length = 0 by rw [← hCo]; exact hfin.1), List.append_nil]
            have hE : z0.toList.isEmpty = false := by
              rw [← HZ0.out, bs_list]
              cases hv : x.name with
              | nil => exact absurd hv hfin.2
              | cons a t => rfl
            have hcb : ((cc : Int) == 0) = true := by rw [hfin.1]; rfl
            have hcb' : (cc : Int) = 0 := by omega
            have HW9 : Hid (#[.string z0, .string (bs x.value), .bool x.user, .bool x.set] = (vcells x).toArray) := by rw [HVN.out]; exact Hid.mk' rfl
            clear HPN HP' HVN HZ0 hCo HCC hfin
            generalize bs x.value = z9 at *
            generalize x.user = xu at *
            generalize x.set = xs at *
            go_wp2_with (at_builtin; refine wpList_append_v2 _ (by rfl) _ _ rfl w2.heap.size ad' cap' P' N rfl HL'.out HO'.out x _ HW9.out _ _ rfl rfl hbs' hpl' ?_)
            intro ad5 cap5 l5 w5 hl5 ho5 hb5
            have HB5 := Hid.mk' (hb5 _ _ (Nat.le_refl _) HB'.out)
            have HLL : Hid (∃ N5 : Nat, l5.length = N5 ∧ Hid (N5 = l5.length)) := ⟨l5.length, rfl, rfl⟩
            obtain ⟨N5, hN5, HN5L⟩ := HLL.out
            have HO5 := Hid.mk' ho5
            have HP5 := Hid.mk' (HP2.out l5 hl5.out)
            rw [hN5]
            clear ho5 hb5 hl5 HLL HW9 HP2 hN5 HB' HO' HX' HNE HL' HL
            go_wp2
            go_roundg (m.length - (k + 1))
            case measure => omega
            case rel => exact ⟨k + 1, N5, l5, ad5, cap5, by omega, by omega, by go_num, rfl, HN5L, HO5, HP5, HB5⟩
          · have HP2 : Hid (P' = pickT l (m.take (k + 1))) := by
              rw [HPN.out, HP'.out, List.take_length]
              by_cases hxn : x.name = []
              · rw [one_all hxn]; exact Hid.mk' rfl
              · rw [one_some hxn (by rw [← hCo]; intro e; exact hfin ⟨e, hxn⟩)]; exact Hid.mk' rfl
            by_cases hc0 : cc = 0
            · have hxn : x.name = [] := by
                cases hv : x.name with
                | nil => rfl
                | cons a t => exact absurd ⟨hc0, by rw [hv]; simp⟩ hfin
              have hE : z0.toList.isEmpty = true := by rw [← HZ0.out, bs_list, hxn]; rfl
              have hcb : ((cc : Int) == 0) = true := by rw [hc0]; rfl
              have hcb' : (cc : Int) = 0 := by omega
              clear HPN HP' HVN HZ0 hCo HCC hfin hxn hc0 HX' HNE HL
              go_wp2
              go_roundg (m.length - (k + 1))
              case measure => omega
              case rel => exact ⟨k + 1, N, P', ad', cap', by omega, by omega, by go_num, rfl, HL', HO', HP2, HB'⟩
            · have hcb : ((cc : Int) == 0) = false := by rw [beq_eq_false_iff_ne]; omega
              have hcb' : ¬ (cc : Int) = 0 := by omega
              clear HPN HP' HVN HZ0 hCo HCC hfin hc0 HX' HNE HL
              go_wp2
              go_roundg (m.length - (k + 1))
              case measure => omega
              case rel => exact ⟨k + 1, N, P', ad', cap', by omega, by omega, by go_num, rfl, HL', HO', HP2, HB'⟩
    · obtain rfl : k = m.length := by omega
      have hPm : P = pickT l m := by rw [HP.out, List.take_length]
      have hNl := HL.out
      have HBw := Hid.mk' (HB2.out.trans (HB.out.mono hs2))
      have HW := Hid.mk' (H3.out wo _ P HBw.out HO.out.rd (by omega) (by rw [hPm]))
      rw [← hNl] at HW
      clear HP HPL H3 HL hPm hNl hpl HO
      go_wp2_with fail
      refine HW.out.mono ?_
      rintro e w7 ⟨rfl, hb7⟩
      have HB7 := Hid.mk' (HBw.out.trans (hb7.mono HBw.out.size))
      clear hb7 HW
      go_wp2_with fail
      refine (HBP.out w7).mono ?_
      rintro e w8 ⟨rfl, hb8⟩
      have HB8 := Hid.mk' (HB7.out.trans (hb8.mono HB7.out.size))
      clear hb8 HB7
      go_wp2
      go_ret2
      exact ⟨rfl, HB8.out⟩

set_option maxHeartbeats 32000000 in
set_option maxRecDepth 100000 in
theorem VAnswer_some_no (w : World) (v : Value) (l : List Vr) (ask : List UInt8) (mx : Int) (hm : w.cell? ⟨0, 0, none⟩ = some (.int .i64 mx)) (hv : RdV w v l) (hn : l.length ≤ 1048576) (hz : ask.length + 1 ≤ 9223372036854775807) (m : List Vr) (h : wantedT ask = (m, 0)) (hmne : m ≠ []) (hm20 : m.length ≤ 20) (r : Int) (hT : writeT (pickT l m) = ([], r)) (hr : (r == 0) = false) :
    Calls Tryd.prog 13 #[v, .string (bs (1 :: ask))] w fun e w' => e = .returned (.tuple #[.string (bs (answerT l (1 :: ask)).1), .int .i64 (answerT l (1 :: ask)).2]) ∧ Below w.heap.size w w' := by
  have h00 : 0 < w.heap.size := World.block_lt_of_cell? _ _ hm
  have H1 := Hid.mk' (HasPrefix_one (1 :: ask) w (by simpa using hz))
  rw [show (cutP (1 :: ask)).2 = true from rfl] at H1
  have H2 := Hid.mk' (WantedVars_any ask mx w (by omega) hm)
  rw [h] at H2
  dsimp only at H2
  have hszr : (bs (1 :: ask)).size = ask.length + 1 := by rw [bs_size]; rfl
  have hxd : (bs (1 :: ask)).extract 1 (ask.length + 1) = bs ask := by rw [← hszr, bs_drop]; rfl
  have ha : answerT l (1 :: ask) = ([], r) := by
    rw [answerT_one, h]
    simp only [if_true]
    rw [toldT, if_neg hmne]
    exact sayT_no hT hr
  rw [ha]
  dsimp only
  have H3 : Hid (∀ W v' L, Below w.heap.size w W → RdV W v' L → L.length ≤ 100000000 → writeT L = writeT (pickT l m) → Calls Tryd.prog 6 #[v'] W fun e w' => e = .returned (.tuple #[.string ⟨#[]⟩, .int .i64 r]) ∧ Below W.heap.size W w') := fun W v' L hW hR hL he => by
    have := VarsText_any W v' L mx hR (by omega) ((hW.cell (p := ⟨0, 0, none⟩) h00).trans hm)
    rw [he, hT] at this
    exact this
  generalize bs (1 :: ask) = D at *
  generalize bs ask = K at *
  clear h ha hT hm h00
  have hv0 := hv
  have HV := Hid.mk' hv0
  obtain ⟨a, c, rfl, hc, hr⟩ := hv
  clear hv0
  have hmp : 0 < m.length := by
    cases m with
    | nil => exact absurd rfl hmne
    | cons a t => simp
  have hml0 : ((m.length : Int) == 0) = false := by rw [beq_eq_false_iff_ne]; omega
  have hml1 : ¬ (m.length : Int) = 0 := by omega
  have HPL : Hid (∀ k, (pickT l (m.take k)).length ≤ 20971540) := fun k => by
    have h1 := pick_len l hn (m.take k)
    have h2 : (m.take k).length ≤ 20 := by rw [List.length_take]; omega
    omega
  go_enter Tryd.func13, Tryd.ntmps13
  go_wp2_with fail
  refine H1.out.mono ?_
  rintro e w1 ⟨rfl, rfl⟩
  go_wp2_with fail
  refine H2.out.mono ?_
  rintro e w2 ⟨adm, capm, rfl, hom, hb2⟩
  have HB2 := Hid.mk' hb2
  have hs2 := HB2.out.size
  have HOM := Hid.mk' hom
  clear hb2 H2 hom H1 hmne
  obtain ⟨am, cm, em, hcm, hrm⟩ := HOM.out.rd
  simp only [Value.slice.injEq] at em
  obtain ⟨rfl, _, rfl⟩ := em
  clear HOM
  go_wp2_with fail
  go_loopg [8, 33] m.length (fun g s8 s33 wr => AO w2 l m g s8 s33 wr)
  case atStart => exact ⟨0, 0, [], none, 0, Nat.zero_le _, by omega, rfl, rfl, rfl, OwnV.nil _ _, rfl, Below.refl _ _⟩
  case round =>
    obtain ⟨k, n, P, ad, cap, hk, hg, rfl, rfl, HL, HO, HP, HB⟩ := hrel
    obtain ⟨wo, hwo⟩ : ∃ wo, wo = wr := ⟨_, rfl⟩
    subst hwo
    have hbs := HB.out.size
    have hpl : P.length ≤ 20971540 := by rw [HP.out]; exact HPL.out k
    by_cases hlt : k < m.length
    · rcases hrm with h0 | ⟨b2, o2, rfl, tm, hbm⟩
      · subst h0; simp at hlt
      obtain ⟨p0, p1, p2, p3⟩ := (tm k hlt).below HB.out hbm
      have HA := fun cs => Hid.mk' (HB.out.alloc hbs (.cells cs 30))
      have HOA := fun cs => Hid.mk' (HO.out.below ((Below.refl wo.heap.size wo).alloc (Nat.le_refl _) (.cells cs 30)))
      have HX0 : Hid (Box (wo.alloc (.cells #[.string (bs m[k].name), .string (bs m[k].value), .bool m[k].user, .bool m[k].set] 30)) wo.heap.size 30 (vcells m[k])) := Box.new wo 30 (vcells m[k])
      have hne : ad ≠ some ⟨wo.heap.size, 0, none⟩ := fun e => by
        have := HO.out
        unfold OwnV at this
        have := (this.lt wo.heap.size (by rw [e]; rfl)).2
        omega
      have HST : Hid (AI w2 l P m[k] wo.heap.size l.length (.slice ad n cap) (.int .i64 0) (.int .i64 0) (wo.alloc (.cells #[.string (bs m[k].name), .string (bs m[k].value), .bool m[k].user, .bool m[k].set] 30))) :=
        ⟨0, n, 0, P, ad, cap, Nat.zero_le _, by omega, rfl, rfl, rfl, by omega, by rw [hits_zero]; exact Hid.mk' rfl, HL, (HOA _).out, by rw [hits_zero, List.append_nil]; exact Hid.mk' rfl, (HA _).out, HX0.out, hne⟩
      have HPN := Hid.mk' (pick_next (l := l) hlt)
      rw [← HP.out] at HPN
      clear HP HO HB HOA HA HX0 hne tm H3 
      generalize hx : m[k] = x at *
      clear hx
      have hvn : vcells x = [.string (bs x.name), .string (bs x.value), .bool x.user, .bool x.set] := rfl
      have HVN := Hid.mk' hvn
      clear hvn
      generalize hz0 : bs x.name = z0 at *
      have HZ0 := Hid.mk' hz0
      clear hz0
      go_wp2_with fail
      go_loopg [8, 11, 39] l.length (fun g s8 s11 s39 wr => AI w2 l P x wo.heap.size g s8 s11 s39 wr)
      case atStart => exact HST.out
      case round =>
        obtain ⟨j, N, cc, P', ad', cap', hj, hgj, rfl, rfl, rfl, hcc, HCC, HL', HO', HP', HB', HX', HNE⟩ := hrel
        clear HST
        have hbs' := HB'.out.size
        have hb7 := HX'.out.lt
        have hhl := hits_len x (l.take j)
        have hpl' : P'.length ≤ 1099511627776 := by
          rw [HP'.out, List.length_append]
          have : (l.take j).length ≤ l.length := by rw [List.length_take]; omega
          omega
        by_cases hjl : j < l.length
        · rcases hr with h0 | ⟨b, o, rfl, t, hb⟩
          · subst h0; simp at hjl
          obtain ⟨y0, y1, y2, y3⟩ := (t j hjl).below (HB2.out.trans (HB'.out.mono hs2)) hb
          have HA := fun cs => Hid.mk' (HB'.out.alloc hbs' (.cells cs 30))
          have HXA := fun cs => Hid.mk' (HX'.out.alloc (.cells cs 30))
          have HOA := fun cs => Hid.mk' (HO'.out.below ((Below.refl wr.heap.size wr).alloc (Nat.le_refl _) (.cells cs 30)))
          have x0 := fun o => alloc_cell o (HX'.out.cell (j := 0) rfl) hb7
          have x2 := fun o => alloc_cell o (HX'.out.cell (j := 2) rfl) hb7
          rw [HZ0.out] at x0
          clear hhl t
          by_cases hu : l[j].user = x.user
          · by_cases hxn : x.name = []
            · have HP2 : Hid (∀ P2, P2 = P' ++ [l[j]] → P2 = P ++ hits x (l.take (j + 1))) := fun P2 h => by rw [h, HP'.out, hits_put1 hjl hu hxn, List.append_assoc]
              have HC2 : Hid (cc + 1 = (hits x (l.take (j + 1))).length) := by rw [hits_put1 hjl hu hxn, List.length_append, ← HCC.out]; exact Hid.mk' rfl
              have hE : z0.toList.isEmpty = true := by rw [← HZ0.out, bs_list, hxn]; rfl
              have HW : Hid (#[.string (bs l[j].name), .string (bs l[j].value), .bool l[j].user, .bool l[j].set] = (vcells l[j]).toArray) := Hid.mk' rfl
              rw [← hu] at x2
              clear HP' HO' HB' HX' hu HL HCC HVN HZ0 HPN
              generalize bs l[j].name = q0 at *
              generalize bs l[j].value = q1 at *
              generalize hq2 : l[j].user = q2 at *
              generalize l[j].set = q3 at *
              clear hq2
              go_wp2_with (at_builtin; refine wpList_append_v3 _ (by rfl) _ _ rfl w2.heap.size ad' cap' P' N rfl HL'.out (HOA _).out l[j] _ HW.out _ _ rfl (World.size_alloc _ _).symm (by rw [World.size_alloc]; omega) hpl' ?_)
              intro ad5 cap5 l5 w5 hl5 ho5 hb5 hk5 hn5
              have HB5 := Hid.mk' (hb5 _ _ (Nat.le_refl _) (HA _).out)
              have HX5 := Hid.mk' ((HXA _).out.kept (hk5 wo.heap.size (by omega) HNE.out))
              have HN5 : Hid (ad5 ≠ some ⟨wo.heap.size, 0, none⟩) := fun e => by
                rcases hn5 with h | ⟨g, h, h2⟩
                · exact HNE.out (h.symm.trans e)
                · rw [h] at e
                  simp only [Option.some.injEq, Addr.mk.injEq] at e
                  omega
              have HLL : Hid (∃ N5 : Nat, l5.length = N5 ∧ Hid (N5 = l5.length)) := ⟨l5.length, rfl, rfl⟩
              obtain ⟨N5, hN5, HN5L⟩ := HLL.out
              have HO5 := Hid.mk' ho5
              have HP5 := Hid.mk' (HP2.out l5 hl5.out)
              rw [hN5]
              have hc6 : cc + 1 ≤ 1048576 := by
                have h1 := HC2.out
                have h2 := hits_len x (l.take (j + 1))
                have h3 : (l.take (j + 1)).length ≤ l.length := by rw [List.length_take]; omega
                omega
              clear ho5 hb5 hk5 hn5 hl5 HLL HOA HA HXA HW HP2 hN5 HNE HL'
              go_wp2
              go_roundg (l.length - (j + 1))
              case measure => omega
              case rel => exact ⟨j + 1, N5, cc + 1, l5, ad5, cap5, by omega, by omega, by go_num, rfl, by go_num, hc6, HC2, HN5L, HO5, HP5, HB5, HX5, HN5⟩
            · have hE : z0.toList.isEmpty = false := by
                rw [← HZ0.out, bs_list]
                cases hv : x.name with
                | nil => exact absurd hv hxn
                | cons a t => rfl
              by_cases hnm : l[j].name = x.name
              · have hq : ((bs l[j].name).toList == z0.toList) = true := by rw [← HZ0.out, bs_beq]; exact decide_eq_true hnm
                by_cases hc0 : cc = 0
                · have HP2 : Hid (∀ P2, P2 = P' ++ [l[j]] → P2 = P ++ hits x (l.take (j + 1))) := fun P2 h => by rw [h, HP'.out, hits_put2 hjl hu hxn hnm (by rw [← HCC.out]; exact hc0), List.append_assoc]
                  have HC2 : Hid (cc + 1 = (hits x (l.take (j + 1))).length) := by rw [hits_put2 hjl hu hxn hnm (by rw [← HCC.out]; exact hc0), List.length_append, ← HCC.out]; exact Hid.mk' rfl
                  have hcb : ((cc : Int) == 0) = true := by rw [hc0]; rfl
                  have hcb' : (cc : Int) = 0 := by omega
                  have HW : Hid (#[.string (bs l[j].name), .string (bs l[j].value), .bool l[j].user, .bool l[j].set] = (vcells l[j]).toArray) := Hid.mk' rfl
                  rw [← hu] at x2
                  clear HP' HO' HB' HX' hu HL HCC HVN HZ0 HPN
                  generalize bs l[j].name = q0 at *
                  generalize bs l[j].value = q1 at *
                  generalize hq2 : l[j].user = q2 at *
                  generalize l[j].set = q3 at *
                  clear hq2
                  go_wp2_with (at_builtin; refine wpList_append_v3 _ (by rfl) _ _ rfl w2.heap.size ad' cap' P' N rfl HL'.out (HOA _).out l[j] _ HW.out _ _ rfl (World.size_alloc _ _).symm (by rw [World.size_alloc]; omega) hpl' ?_)
                  intro ad5 cap5 l5 w5 hl5 ho5 hb5 hk5 hn5
                  have HB5 := Hid.mk' (hb5 _ _ (Nat.le_refl _) (HA _).out)
                  have HX5 := Hid.mk' ((HXA _).out.kept (hk5 wo.heap.size (by omega) HNE.out))
                  have HN5 : Hid (ad5 ≠ some ⟨wo.heap.size, 0, none⟩) := fun e => by
                    rcases hn5 with h | ⟨g, h, h2⟩
                    · exact HNE.out (h.symm.trans e)
                    · rw [h] at e
                      simp only [Option.some.injEq, Addr.mk.injEq] at e
                      omega
                  have HLL : Hid (∃ N5 : Nat, l5.length = N5 ∧ Hid (N5 = l5.length)) := ⟨l5.length, rfl, rfl⟩
                  obtain ⟨N5, hN5, HN5L⟩ := HLL.out
                  have HO5 := Hid.mk' ho5
                  have HP5 := Hid.mk' (HP2.out l5 hl5.out)
                  rw [hN5]
                  have hc6 : cc + 1 ≤ 1048576 := by
                    have h1 := HC2.out
                    have h2 := hits_len x (l.take (j + 1))
                    have h3 : (l.take (j + 1)).length ≤ l.length := by rw [List.length_take]; omega
                    omega
                  clear ho5 hb5 hk5 hn5 hl5 HLL HOA HA HXA HW HP2 hN5 HNE HL'
                  go_wp2
                  go_roundg (l.length - (j + 1))
                  case measure => omega
                  case rel => exact ⟨j + 1, N5, cc + 1, l5, ad5, cap5, by omega, by omega, by go_num, rfl, by go_num, hc6, HC2, HN5L, HO5, HP5, HB5, HX5, HN5⟩
                · have HP2 : Hid (P' = P ++ hits x (l.take (j + 1))) := by rw [hits_skip3 hjl hxn (by rw [← HCC.out]; exact hc0)]; exact HP'
                  have HC2 : Hid (cc = (hits x (l.take (j + 1))).length) := by rw [hits_skip3 hjl hxn (by rw [← HCC.out]; exact hc0)]; exact HCC
                  have hcb : ((cc : Int) == 0) = false := by rw [beq_eq_false_iff_ne]; omega
                  have hcb' : ¬ (cc : Int) = 0 := by omega
                  rw [← hu] at x2
                  clear HP' HO' HB' HX' HL HCC HVN HZ0 HPN hu hnm hc0
                  generalize bs l[j].name = q0 at *
                  generalize bs l[j].value = q1 at *
                  generalize l[j].user = q2 at *
                  generalize x.user = xu at *
                  generalize l[j].set = q3 at *
                  go_wp2
                  go_roundg (l.length - (j + 1))
                  case measure => omega
                  case rel => exact ⟨j + 1, N, cc, P', ad', cap', by omega, by omega, by go_num, rfl, rfl, hcc, HC2, HL', HOA _, HP2, HA _, HXA _, HNE⟩
              · have HP2 : Hid (P' = P ++ hits x (l.take (j + 1))) := by rw [hits_skip2 hjl hxn hnm]; exact HP'
                have HC2 : Hid (cc = (hits x (l.take (j + 1))).length) := by rw [hits_skip2 hjl hxn hnm]; exact HCC
                have hq : ((bs l[j].name).toList == z0.toList) = false := by rw [← HZ0.out, bs_beq]; exact decide_eq_false hnm
                rw [← hu] at x2
                clear HP' HO' HB' HX' HL HCC HVN HZ0 HPN hnm hu
                generalize bs l[j].name = q0 at *
                generalize bs l[j].value = q1 at *
                generalize l[j].user = q2 at *
                generalize l[j].set = q3 at *
                generalize x.user = xu at *
                go_wp2
                go_roundg (l.length - (j + 1))
                case measure => omega
                case rel => exact ⟨j + 1, N, cc, P', ad', cap', by omega, by omega, by go_num, rfl, rfl, hcc, HC2, HL', HOA _, HP2, HA _, HXA _, HNE⟩
          · have HP2 : Hid (P' = P ++ hits x (l.take (j + 1))) := by rw [hits_skip1 hjl hu]; exact HP'
            have HC2 : Hid (cc = (hits x (l.take (j + 1))).length) := by rw [hits_skip1 hjl hu]; exact HCC
            have hub : (l[j].user == x.user) = false := beq_eq_false_iff_ne.2 hu
            clear HP' HO' HB' HX' HL HCC HVN HZ0 HPN hu
            generalize bs l[j].name = q0 at *
            generalize bs l[j].value = q1 at *
            generalize l[j].user = q2 at *
            generalize l[j].set = q3 at *
            generalize x.user = xu at *
            go_wp2
            go_roundg (l.length - (j + 1))
            case measure => omega
            case rel => exact ⟨j + 1, N, cc, P', ad', cap', by omega, by omega, by go_num, rfl, rfl, hcc, HC2, HL', HOA _, HP2, HA _, HXA _, HNE⟩
        · obtain rfl : j = l.length := by omega
          have hCo := HCC.out
          rw [List.take_length] at hCo
          have x0 := HX'.out.cell (j := 0) rfl
          have x1 := HX'.out.cell (j := 1) rfl
          have x2 := HX'.out.cell (j := 2) rfl
          have x3 := HX'.out.cell (j := 3) rfl
          rw [HZ0.out] at x0
          by_cases hfin : cc = 0 ∧ x.name ≠ []
          · have HP2 : Hid (∀ P2, P2 = P' ++ [x] → P2 = pickT l (m.take (k + 1))) := fun P2 h => by
              rw [h, HPN.out, HP'.out, List.take_length, one_none hfin.2 (by rw [← hCo]; exact hfin.1), List.length_eq_zero_iff.1 (show (hits x l).length = 0 by rw [← hCo]; exact hfin.1), List.append_nil]
            have hE : z0.toList.isEmpty = false := by
              rw [← HZ0.out, bs_list]
              cases hv : x.name with
              | nil => exact absurd hv hfin.2
              | cons a t => rfl
            have hcb : ((cc : Int) == 0) = true := by rw [hfin.1]; rfl
            have hcb' : (cc : Int) = 0 := by omega
            have HW9 : Hid (#[.string z0, .string (bs x.value), .bool x.user, .bool x.set] = (vcells x).toArray) := by rw [HVN.out]; exact Hid.mk' rfl
            clear HPN HP' HVN HZ0 hCo HCC hfin
            generalize bs x.value = z9 at *
            generalize x.user = xu at *
            generalize x.set = xs at *
            go_wp2_with (at_builtin; refine wpList_append_v2 _ (by rfl) _ _ rfl w2.heap.size ad' cap' P' N rfl HL'.out HO'.out x _ HW9.out _ _ rfl rfl hbs' hpl' ?_)
            intro ad5 cap5 l5 w5 hl5 ho5 hb5
            have HB5 := Hid.mk' (hb5 _ _ (Nat.le_refl _) HB'.out)
            have HLL : Hid (∃ N5 : Nat, l5.length = N5 ∧ Hid (N5 = l5.length)) := ⟨l5.length, rfl, rfl⟩
            obtain ⟨N5, hN5, HN5L⟩ := HLL.out
            have HO5 := Hid.mk' ho5
            have HP5 := Hid.mk' (HP2.out l5 hl5.out)
            rw [hN5]
            clear ho5 hb5 hl5 HLL HW9 HP2 hN5 HB' HO' HX' HNE HL' HL
            go_wp2
            go_roundg (m.length - (k + 1))
            case measure => omega
            case rel => exact ⟨k + 1, N5, l5, ad5, cap5, by omega, by omega, by go_num, rfl, HN5L, HO5, HP5, HB5⟩
          · have HP2 : Hid (P' = pickT l (m.take (k + 1))) := by
              rw [HPN.out, HP'.out, List.take_length]
              by_cases hxn : x.name = []
              · rw [one_all hxn]; exact Hid.mk' rfl
              · rw [one_some hxn (by rw [← hCo]; intro e; exact hfin ⟨e, hxn⟩)]; exact Hid.mk' rfl
            by_cases hc0 : cc = 0
            · have hxn : x.name = [] := by
                cases hv : x.name with
                | nil => rfl
                | cons a t => exact absurd ⟨hc0, by rw [hv]; simp⟩ hfin
              have hE : z0.toList.isEmpty = true := by rw [← HZ0.out, bs_list, hxn]; rfl
              have hcb : ((cc : Int) == 0) = true := by rw [hc0]; rfl
              have hcb' : (cc : Int) = 0 := by omega
              clear HPN HP' HVN HZ0 hCo HCC hfin hxn hc0 HX' HNE HL
              go_wp2
              go_roundg (m.length - (k + 1))
              case measure => omega
              case rel => exact ⟨k + 1, N, P', ad', cap', by omega, by omega, by go_num, rfl, HL', HO', HP2, HB'⟩
            · have hcb : ((cc : Int) == 0) = false := by rw [beq_eq_false_iff_ne]; omega
              have hcb' : ¬ (cc : Int) = 0 := by omega
              clear HPN HP' HVN HZ0 hCo HCC hfin hc0 HX' HNE HL
              go_wp2
              go_roundg (m.length - (k + 1))
              case measure => omega
              case rel => exact ⟨k + 1, N, P', ad', cap', by omega, by omega, by go_num, rfl, HL', HO', HP2, HB'⟩
    · obtain rfl : k = m.length := by omega
      have hPm : P = pickT l m := by rw [HP.out, List.take_length]
      have hNl := HL.out
      have HBw := Hid.mk' (HB2.out.trans (HB.out.mono hs2))
      have HW := Hid.mk' (H3.out wo _ P HBw.out HO.out.rd (by omega) (by rw [hPm]))
      rw [← hNl] at HW
      clear HP HPL H3 HL hPm hNl hpl HO
      go_wp2_with fail
      refine HW.out.mono ?_
      rintro e w7 ⟨rfl, hb7⟩
      have HB7 := Hid.mk' (HBw.out.trans (hb7.mono HBw.out.size))
      clear hb7 HW
      go_wp2
      go_ret2
      exact ⟨rfl, HB7.out⟩

theorem VarsAnswer_any (w : World) (v : Value) (l : List Vr) (d : List UInt8) (mx : Int) (hm : w.cell? ⟨0, 0, none⟩ = some (.int .i64 mx)) (hv : RdV w v l) (hn : l.length ≤ 1048576) (hz : d.length ≤ 9223372036854775807) :
    Calls Tryd.prog 13 #[v, .string (bs d)] w fun e w' => e = .returned (.tuple #[.string (bs (answerT l d).1), .int .i64 (answerT l d).2]) ∧ Below w.heap.size w w' := by
  match d, hz with
  | [], hz => exact VAnswer_form w v l [] hz rfl rfl
  | b :: ask, hz =>
    by_cases hb : b.toNat = 1
    · obtain rfl : b = 1 := UInt8.toNat_inj.1 hb
      rw [List.length_cons] at hz
      rcases wanted_cases ask with ⟨r, h, hr⟩ | ⟨m, h, _, hm20⟩
      · exact VAnswer_want w v l ask mx hm hz r h hr
      · by_cases hmn : m = []
        · subst hmn
          rcases write_cases l with ⟨T, hT, hTl⟩ | ⟨r, hT, hr⟩
          · exact VAnswer_all_ok w v l ask mx hm hv hn hz h T hT hTl
          · exact VAnswer_all_no w v l ask mx hm hv hn hz h r hT hr
        · rcases write_cases (pickT l m) with ⟨T, hT, hTl⟩ | ⟨r, hT, hr⟩
          · exact VAnswer_some_ok w v l ask mx hm hv hn hz m h hmn hm20 T hT hTl
          · exact VAnswer_some_no w v l ask mx hm hv hn hz m h hmn hm20 r hT hr
    · exact VAnswer_form w v l (b :: ask) hz (by rw [cutP, if_neg (by intro e; subst e; exact hb rfl)]) (by rw [answerT, if_neg hb])

set_option maxHeartbeats 8000000 in
set_option maxRecDepth 100000 in
theorem EnvironAnswers_any (w : World) (v : Value) (l : List Vr) (d : List UInt8) (m : Int) (hv : RdV w v l) (hn : l.length ≤ 1048576) (hz : d.length ≤ 9223372036854775807) (hm : w.cell? ⟨0, 0, none⟩ = some (.int .i64 m)) :
    Calls Tryd.prog 4 #[v, .string (bs d)] w fun e w' => e = .returned (.bool true) ∧ Below w.heap.size w w' := by
  have h00 : 0 < w.heap.size := World.block_lt_of_cell? _ _ hm
  have H1 := Hid.mk' (Answer_any w v l d hv (by omega) hz)
  have H2 : Hid (∀ W, Below w.heap.size w W → _) := fun W hW => VarsAnswer_any W v l d m ((hW.cell (p := ⟨0, 0, none⟩) h00).trans hm) (hv.below hW (Nat.le_refl _)) hn hz
  generalize bs (answerT l d).1 = A at *
  generalize (answerT l d).2 = r at *
  generalize bs d = D at *
  have hAA : (A.toList == A.toList) = true := beq_self_eq_true _
  obtain ⟨a, c, rfl, hc, hr⟩ := hv
  clear hr hm h00
  go_enter Tryd.func4, Tryd.ntmps4
  go_wp2_with fail
  refine H1.out.mono ?_
  rintro e w1 ⟨rfl, hb1⟩
  have HB1 := Hid.mk' hb1
  have hs1 := HB1.out.size
  clear hb1 H1
  go_wp2_with fail
  refine (H2.out w1 HB1.out).mono ?_
  rintro e w2 ⟨rfl, hb2⟩
  have HB2 := Hid.mk' (HB1.out.trans (hb2.mono hs1))
  clear hb2 H2 HB1
  go_wp2
  go_ret
  exact ⟨rfl, HB2.out⟩
end Go.Proofs.YtbfiompbngpjoaaDoor.E
