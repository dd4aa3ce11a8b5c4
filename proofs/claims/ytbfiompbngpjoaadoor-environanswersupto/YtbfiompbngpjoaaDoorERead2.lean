/-
  Contract of farref.ReadVars; conditions: an int tells the text's length, and the variable internal/bytealg.MaxLen holds some int.
-/
import Derived.Test.YtbfiompbngpjoaaDoorEText
import Derived.Test.YtbfiompbngpjoaaDoorEPiece
import Derived.Test.YtbfiompbngpjoaaDoorEAns
namespace Go.Proofs.YtbfiompbngpjoaaDoor.E
open Go.RowKit Go.Lib Go.Proofs.YtbfiompbngpjoaaDoor Go.Proofs.YtbfiompbngpjoaaDoor.W Go.Proofs.YtbfiompbngpjoaaDoor.Q Go.Proofs.YtbfiompbngpjoaaDoor.C

def BState (w : World) (s : List UInt8) (g : Nat) (s0 s4 : Value) (wr : World) : Prop :=
  ∃ (r : List UInt8) (n : Nat) (l : List Vr) (ad : Option Addr) (cap : Nat), s0 = .string (bs r) ∧ s4 = .slice ad n cap ∧ r.length ≤ g ∧ n + r.length ≤ 4096 ∧ Hid (n = l.length) ∧ Hid (OwnV wr w.heap.size ad cap l) ∧ Hid (rd s = (rd r).map fun m => l ++ m) ∧ Hid (Below w.heap.size w wr)
theorem piece_below (s : List UInt8) (W : World) (hz : s.length ≤ 1000000000) : Calls Tryd.prog 19 #[.string (bs s)] W fun e w' => e = .returned (.tuple #[.string (pieceT s).1, .string (pieceT s).2.1, .bool (pieceT s).2.2]) ∧ Below W.heap.size W w' := by
  refine (piece_any s W hz).mono ?_
  rintro e w' ⟨rfl, q, rfl⟩
  exact ⟨rfl, below_drewN (Below.refl _ _) q⟩
theorem head_cases (b : UInt8) : b = 0 ∨ b = 3 ∨ isHead b = false := by
  by_cases h0 : b.toNat = 0
  · exact .inl (UInt8.toNat_inj.1 h0)
  · by_cases h3 : b.toNat = 3
    · exact .inr (.inl (UInt8.toNat_inj.1 h3))
    · exact .inr (.inr (decide_eq_false (by omega)))
theorem rd_none2 {s : List UInt8} {b : UInt8} {t : List UInt8} {l : List Vr} (h : rd s = (rd (b :: t)).map fun m => l ++ m) (hv : var0 (b :: t) = none) : ∀ m, rd s = some m → chk m ≠ 0 := fun m hm => by
  rw [h, rd_none hv] at hm
  cases hm
theorem var0_head {b : UInt8} {t : List UInt8} {u : Bool} (h : isHead b = true) (hu : decide (b.toNat = 3) = u) : var0 (b :: t) = (word t).bind fun p => afterName u p.1 p.2 := by rw [var0, if_pos h, hu]

set_option maxHeartbeats 32000000 in
set_option maxRecDepth 100000 in
theorem ReadVars_any (s : List UInt8) (m : Int) (w : World) (hz : s.length ≤ 9223372036854775807) (hm : w.cell? ⟨0, 0, none⟩ = some (.int .i64 m)) :
    Calls Tryd.prog 8 #[.string (bs s)] w fun e w' => ∃ ad cap, e = .returned (.tuple #[.slice ad (readT s).1.length cap, .int .i64 (readT s).2]) ∧ OwnV w' w.heap.size ad cap (readT s).1 ∧ Below w.heap.size w w' := by
  have hsz := bs_size s
  by_cases h4 : 4096 < s.length
  · rw [readT_large h4]
    have h4' : (4096 : Int) < ((bs s).size : Int) := by omega
    generalize bs s = S at *
    go_enter Tryd.func8, Tryd.ntmps8
    go_wp2
    go_ret2
    exact ⟨none, 0, rfl, OwnV.nil _ _, Below.refl _ _⟩
  have h4' : ¬ (4096 : Int) < ((bs s).size : Int) := by omega
  have h00 : 0 < w.heap.size := World.block_lt_of_cell? _ _ hm
  have HVT : Hid (∀ W ad cap l, Below w.heap.size w W → OwnV W w.heap.size ad cap l → l.length ≤ 4096 → Calls Tryd.prog 6 #[.slice ad l.length cap] W fun e w' => e = .returned (.tuple #[.string (bs (writeT l).1), .int .i64 (writeT l).2]) ∧ Below W.heap.size W w') := fun W ad cap l h1 h2 h3 => VarsText_any W _ l m h2.rd (by omega) ((h1.cell (p := ⟨0, 0, none⟩) h00).trans hm)
  have HN : Hid ((∀ m, rd s = some m → chk m ≠ 0) → readT s = ([], 4)) := fun h => readT_no (by omega) h
  have HO : Hid (∀ m, rd s = some m → chk m = 0 → readT s = (m, 0)) := fun m h1 h2 => readT_ok (by omega) h1 h2
  have HST : Hid (BState w s s.length (.string (bs s)) (.slice none 0 0) w) := ⟨s, 0, [], none, 0, rfl, rfl, Nat.le_refl _, by omega, rfl, OwnV.nil _ _, Hid.mk' (by simp), Below.refl _ _⟩
  clear hm
  generalize readT s = R at *
  obtain ⟨R1, R2⟩ := R
  simp only at HN HO ⊢
  generalize bs s = S at *
  go_enter Tryd.func8, Tryd.ntmps8
  go_wp2_with fail
  go_loopg [0, 4] s.length (fun g s0 s4 wr => BState w s g s0 s4 wr)
  case atStart => exact HST.out
  case round =>
    obtain ⟨r, n, l, ad, cap, rfl, rfl, hg, hr, HL, HV, HR, HB⟩ := hrel
    clear HST
    have hbs := HB.out.size
    match r, hg, hr, HR with
    | [], _, hr, HR =>
      have hE : (bs []).toList.isEmpty = true := by rw [bs_list]; rfl
      have hmm : rd s = some l := by rw [HR.out, rd_nil]; simp
      have hl4 : l.length ≤ 4096 := by have := HL.out; simp at hr; omega
      have HW := Hid.mk' (HVT.out wr ad cap l HB.out HV.out hl4)
      have hL := HL.out
      rcases write_cases l with ⟨T, hT, _⟩ | ⟨e, hT, he⟩
      · have hc : chk l = 0 := by rw [← writeT_err, hT]
        have er := HO.out l hmm hc
        simp only [Prod.mk.injEq] at er
        obtain ⟨rfl, rfl⟩ := er
        rw [hT] at HW
        dsimp only at HW
        clear HN HO HR HL hmm hc hT HVT
        subst hL
        generalize bs [] = E0 at *
        generalize bs T = T2 at *
        go_wp2_with fail
        refine HW.out.mono ?_
        rintro e w2 ⟨rfl, hb2⟩
        have HB2 := Hid.mk' (HB.out.trans (hb2.mono hbs))
        have HV2 := Hid.mk' (HV.out.below hb2)
        clear hb2 HW HV HB
        go_wp2
        go_ret2
        exact ⟨ad, cap, rfl, HV2.out, HB2.out⟩
      · have hc : chk l ≠ 0 := by rw [← writeT_err, hT]; intro e0; simp only at e0; subst e0; cases he
        have er := HN.out (fun m' hm' => by rw [hmm, Option.some.injEq] at hm'; rw [← hm']; exact hc)
        simp only [Prod.mk.injEq] at er
        obtain ⟨rfl, rfl⟩ := er
        rw [hT] at HW
        dsimp only at HW
        clear HN HO HR HL hmm hc hT HVT
        subst hL
        generalize bs [] = E0 at *
        go_wp2_with fail
        refine HW.out.mono ?_
        rintro e w2 ⟨rfl, hb2⟩
        have HB2 := Hid.mk' (HB.out.trans (hb2.mono hbs))
        clear hb2 HW HV HB
        go_wp2
        go_ret2
        exact ⟨none, 0, rfl, OwnV.nil _ _, HB2.out⟩
    | b :: t, hg, hr, HR =>
      have hE : (bs (b :: t)).toList.isEmpty = false := by rw [bs_list]; rfl
      have hszr : (bs (b :: t)).size = t.length + 1 := by rw [bs_size]; rfl
      have hg0 : ∀ h : 0 < (bs (b :: t)).size, (bs (b :: t))[0]'h = b := fun _ => rfl
      have hxd : (bs (b :: t)).extract 1 (t.length + 1) = bs t := by rw [← hszr, bs_drop]; rfl
      simp only [List.length_cons] at hg hr
      have HNO : Hid (var0 (b :: t) = none → (R1, R2) = ([], 4)) := fun h => HN.out (rd_none2 HR.out h)
      have HSTEP := Hid.mk' (fun x r (hv : var0 (b :: t) = some (x, r)) => rd_step HR.out hv)
      have HOa : Hid (∀ W, (∀ k, k < wr.heap.size → W.heap[k]? = wr.heap[k]?) → OwnV W w.heap.size ad cap l) := fun W h => OwnR.keptAt HV.out (fun k hk => h k (OwnR.lt HV.out k hk).2)
      have hll : l.length ≤ 1099511627776 := by have := HL.out; omega
      clear HN HO HR HV HVT
      rcases head_cases b with rfl | rfl | hb
      · have hvar := var0_head (t := t) (u := false) (show isHead 0 = true from rfl) rfl
        have HP1 : Hid (∀ W, _) := fun W => piece_below t W (by omega)
        have HA := Hid.mk' (HB.out.alloc hbs (.cells #[.string ⟨#[]⟩, .string ⟨#[]⟩, .bool false, .bool false] 30))
        have HXN : Hid (Box (wr.alloc (.cells #[.string ⟨#[]⟩, .string ⟨#[]⟩, .bool false, .bool false] 30)) wr.heap.size 30 [.string ⟨#[]⟩, .string ⟨#[]⟩, .bool false, .bool false]) := Box.new wr 30 _
        have HAB : Hid (∀ W, Below (wr.alloc (.cells #[.string ⟨#[]⟩, .string ⟨#[]⟩, .bool false, .bool false] 30)).heap.size (wr.alloc (.cells #[.string ⟨#[]⟩, .string ⟨#[]⟩, .bool false, .bool false] 30)) W → Below w.heap.size w W ∧ Box W wr.heap.size 30 [.string ⟨#[]⟩, .string ⟨#[]⟩, .bool false, .bool false] ∧ (∀ k, k < wr.heap.size → W.heap[k]? = wr.heap[k]?) ∧ wr.heap.size < W.heap.size) := fun W h => ⟨HA.out.trans (h.mono HA.out.size), HXN.out.later h, fun k hk => (h.block k (by rw [World.size_alloc]; omega)).trans (Below.heap_alloc _ _ _ hk), by have := h.size; rw [World.size_alloc] at this; omega⟩
        clear HA HXN HB
        cases hw : word t with
        | none =>
          have er := HNO.out (by rw [hvar, hw]; rfl)
          simp only [Prod.mk.injEq] at er
          obtain ⟨rfl, rfl⟩ := er
          rw [pieceT_none hw] at HP1
          clear HNO HSTEP HOa hvar hw
          generalize bs (0 :: t) = D at *
          generalize bs t = D1 at *
          have hg0 := hg0 (by omega)
          go_wp2_with fail
          refine (HP1.out _).mono ?_
          rintro e w3 ⟨rfl, hb3⟩
          obtain ⟨h1, h2, h3, h5⟩ := HAB.out w3 hb3
          have f := h2.frozen
          have c0 := h2.cell (j := 0) rfl
          have HB4 := Hid.mk' (h1.setCell (p := ⟨wr.heap.size, 0, none⟩) hbs (.string ⟨#[]⟩))
          clear HAB hb3 h1 h2 h3
          go_wp2
          go_ret2
          exact ⟨none, 0, rfl, OwnV.nil _ _, HB4.out⟩
        | some p =>
          obtain ⟨nm, r0⟩ := p
          rw [pieceT_some hw] at HP1
          rw [hw] at hvar
          simp only [Option.bind_some] at hvar
          have hle := (word_some hw).1
          have hr0 : r0.length ≤ t.length := by rw [hle, List.length_append]; omega
          clear hw hle
          match r0, hr0, hvar with
          | [], hr0, hvar =>
            simp only [afterName] at hvar
            have hE0 : (bs []).toList.isEmpty = true := by rw [bs_list]; rfl
            have HX0 : Hid ((⟨#[]⟩ : ByteArray) = bs []) := Hid.mk' rfl
            have HS2 := Hid.mk' (HSTEP.out _ _ hvar)
            have HW : Hid (#[.string (bs nm), .string ⟨#[]⟩, .bool false, .bool false] = (vcells ⟨nm, [], false, false⟩).toArray) := Hid.mk' rfl
            clear HNO HSTEP hvar
            generalize bs (0 :: t) = D at *
            generalize bs t = D1 at *
            generalize bs nm = NM at *
            generalize hT2 : bs ([]) = T2 at *
            have HTT := Hid.mk' hT2
            clear hT2
            have hg0 := hg0 (by omega)
            go_wp2_with fail
            refine (HP1.out _).mono ?_
            rintro e w3 ⟨rfl, hb3⟩
            obtain ⟨h1, h2, h3, h5⟩ := HAB.out w3 hb3
            have f := h2.frozen
            have c0 := h2.cell (j := 0) rfl
            have c1 := h2.cell (j := 1) rfl
            have c2 := h2.cell (j := 2) rfl
            have c3 := h2.cell (j := 3) rfl
            have HB4 := Hid.mk' (h1.setCell (p := ⟨wr.heap.size, 0, none⟩) hbs (.string NM))
            have HV4 := Hid.mk' (HOa.out (w3.setCell ⟨wr.heap.size, 0, none⟩ (.string NM)) (fun k hk => by rw [setCell_other _ _ _ _ (by omega)]; exact h3 k hk))
            have hsz4 : w3.heap.size = (w3.setCell ⟨wr.heap.size, 0, none⟩ (.string NM)).heap.size := by simp [World.setCell]
            have HSZ4 := Hid.mk' hsz4
            have HBS4 : Hid (w.heap.size ≤ (w3.setCell ⟨wr.heap.size, 0, none⟩ (.string NM)).heap.size) := by rw [← hsz4]; exact Hid.mk' (by omega)
            clear HAB hb3 h1 h2 h3 HP1 hsz4 HOa
            go_wp2_with (at_builtin; refine wpList_append_v2 _ (by rfl) _ _ rfl w.heap.size ad cap l n rfl HL.out HV4.out ⟨nm, [], false, false⟩ _ HW.out _ _ rfl HSZ4.out HBS4.out hll ?_)
            intro ad' cap' l' w5 hl' ho hb5
            have HB5 := Hid.mk' (hb5 _ _ (Nat.le_refl _) HB4.out)
            have HLL : Hid (∃ N : Nat, l'.length = N ∧ N = n + 1 ∧ Hid (N = (l ++ [(⟨nm, [], false, false⟩ : Vr)]).length) ∧ OwnV w5 w.heap.size ad' cap' (l ++ [(⟨nm, [], false, false⟩ : Vr)])) := ⟨l'.length, rfl, by rw [hl'.out, List.length_append]; have := HL.out; simp; omega, by rw [hl'.out]; exact Hid.mk' rfl, by rw [← hl'.out]; exact ho⟩
            obtain ⟨N, hN, hN1, HN, hO⟩ := HLL.out
            have HO := Hid.mk' hO
            rw [hN]
            clear ho hb5 hl' HLL hO hN HV4 HB4 HW HSZ4 HBS4
            go_wp2
            go_roundg (0)
            case measure => omega
            case rel => exact ⟨[], N, _, ad', cap', by rw [HTT.out], rfl, Nat.le_refl _, by (simp only [List.length_nil]; omega), HN, HO, HS2, HB5⟩
          | c :: q, hr0, hvar =>
            have hE0 : (bs (c :: q)).toList.isEmpty = false := by rw [bs_list]; rfl
            have hsz0 : (bs (c :: q)).size = q.length + 1 := by rw [bs_size]; rfl
            have hg00 : ∀ h : 0 < (bs (c :: q)).size, (bs (c :: q))[0]'h = c := fun _ => rfl
            have hxd0 : (bs (c :: q)).extract 1 (q.length + 1) = bs q := by rw [← hsz0, bs_drop]; rfl
            by_cases hc : c.toNat = 1
            · have hc1 : c = 1 := UInt8.toNat_inj.1 hc
              subst hc1
              rw [afterName, if_pos (show (1 : UInt8).toNat = 1 from rfl)] at hvar
              rw [List.length_cons] at hr0
              have HP2 : Hid (∀ W, _) := fun W => piece_below q W (by omega)
              have HST2 : Hid (∀ W, Below w.heap.size w W → Box W wr.heap.size 30 [.string ⟨#[]⟩, .string ⟨#[]⟩, .bool false, .bool false] → (∀ k, k < wr.heap.size → W.heap[k]? = wr.heap[k]?) → ∀ W2, Below ((W.setCell ⟨wr.heap.size, 0, none⟩ (.string (bs nm))).setCell ⟨wr.heap.size, 3, none⟩ (.bool true)).heap.size ((W.setCell ⟨wr.heap.size, 0, none⟩ (.string (bs nm))).setCell ⟨wr.heap.size, 3, none⟩ (.bool true)) W2 → Below w.heap.size w W2 ∧ Box W2 wr.heap.size 30 [.string (bs nm), .string ⟨#[]⟩, .bool false, .bool true] ∧ (∀ k, k < wr.heap.size → W2.heap[k]? = wr.heap[k]?)) := fun W h1 h2 h3 W2 h4 => by
                have hB : Below w.heap.size w ((W.setCell ⟨wr.heap.size, 0, none⟩ (.string (bs nm))).setCell ⟨wr.heap.size, 3, none⟩ (.bool true)) := (h1.setCell (p := ⟨wr.heap.size, 0, none⟩) hbs _).setCell (p := ⟨wr.heap.size, 3, none⟩) hbs _
                refine ⟨hB.trans (h4.mono hB.size), ((h2.setCell 0 _).setCell 3 _).later h4, fun k hk => ?_⟩
                have hsW : wr.heap.size < W.heap.size := h2.lt
                have hsz : ((W.setCell ⟨wr.heap.size, 0, none⟩ (.string (bs nm))).setCell ⟨wr.heap.size, 3, none⟩ (.bool true)).heap.size = W.heap.size := by simp [World.setCell]
                rw [h4.block k (by omega), setCell_other _ _ _ _ (by omega), setCell_other _ _ _ _ (by omega)]
                exact h3 k hk
              cases hw2 : word q with
              | none =>
                have er := HNO.out (by rw [hvar, hw2]; rfl)
                simp only [Prod.mk.injEq] at er
                obtain ⟨rfl, rfl⟩ := er
                rw [pieceT_none hw2] at HP2
                clear HNO HSTEP HOa hvar hw2
                generalize bs (0 :: t) = D at *
                generalize bs t = D1 at *
                generalize bs (1 :: q) = D2 at *
                generalize bs q = D3 at *
                generalize bs nm = NM at *
                have hg0 := hg0 (by omega)
                have hg00 := hg00 (by omega)
                go_wp2_with fail
                refine (HP1.out _).mono ?_
                rintro e w3 ⟨rfl, hb3⟩
                obtain ⟨h1, h2, h3, h5⟩ := HAB.out w3 hb3
                have f := h2.frozen
                have c0 := h2.cell (j := 0) rfl
                have c3 := h2.cell (j := 3) rfl
                have HT2 := Hid.mk' (HST2.out w3 h1 h2 h3)
                clear HAB hb3 h1 h2 h3 HST2 HP1
                go_wp2_with fail
                refine (HP2.out _).mono ?_
                rintro e w4 ⟨rfl, hb4⟩
                obtain ⟨h6, h7, h8⟩ := HT2.out w4 hb4
                have f2 := h7.frozen
                have d1 := h7.cell (j := 1) rfl
                have HB4 := Hid.mk' (h6.setCell (p := ⟨wr.heap.size, 1, none⟩) hbs (.string ⟨#[]⟩))
                clear HT2 hb4 h6 h7 h8 HP2
                go_wp2
                go_ret2
                exact ⟨none, 0, rfl, OwnV.nil _ _, HB4.out⟩
              | some p2 =>
                obtain ⟨y, r1⟩ := p2
                rw [pieceT_some hw2] at HP2
                rw [hw2] at hvar
                simp only [Option.map_some] at hvar
                have hle2 := (word_some hw2).1
                have hr1 : r1.length ≤ q.length := by rw [hle2, List.length_append]; omega
                clear hw2 hle2
                have HS2 := Hid.mk' (HSTEP.out _ _ hvar)
                have HW : Hid (#[.string (bs nm), .string (bs y), .bool false, .bool true] = (vcells ⟨nm, y, false, true⟩).toArray) := Hid.mk' rfl
                clear HNO HSTEP hvar
                generalize bs (0 :: t) = D at *
                generalize bs t = D1 at *
                generalize bs (1 :: q) = D2 at *
                generalize bs q = D3 at *
                generalize bs nm = NM at *
                generalize bs y = Y at *
                generalize hT2 : bs r1 = T2 at *
                have HTT := Hid.mk' hT2
                clear hT2
                have hg0 := hg0 (by omega)
                have hg00 := hg00 (by omega)
                go_wp2_with fail
                refine (HP1.out _).mono ?_
                rintro e w3 ⟨rfl, hb3⟩
                obtain ⟨h1, h2, h3, h5⟩ := HAB.out w3 hb3
                have f := h2.frozen
                have c0 := h2.cell (j := 0) rfl
                have c3 := h2.cell (j := 3) rfl
                have HT2 := Hid.mk' (HST2.out w3 h1 h2 h3)
                clear HAB hb3 h1 h2 h3 HST2 HP1
                go_wp2_with fail
                refine (HP2.out _).mono ?_
                rintro e w4 ⟨rfl, hb4⟩
                obtain ⟨h6, h7, h8⟩ := HT2.out w4 hb4
                have f2 := h7.frozen
                have d0 := h7.cell (j := 0) rfl
                have d1 := h7.cell (j := 1) rfl
                have d2 := h7.cell (j := 2) rfl
                have d3 := h7.cell (j := 3) rfl
                have hlt4 := h7.lt
                have HB4 := Hid.mk' (h6.setCell (p := ⟨wr.heap.size, 1, none⟩) hbs (.string Y))
                have HV4 := Hid.mk' (HOa.out (w4.setCell ⟨wr.heap.size, 1, none⟩ (.string Y)) (fun k hk => by rw [setCell_other _ _ _ _ (by omega)]; exact h8 k hk))
                have hsz4 : w4.heap.size = (w4.setCell ⟨wr.heap.size, 1, none⟩ (.string Y)).heap.size := by simp [World.setCell]
                have HSZ4 := Hid.mk' hsz4
                have HBS4 : Hid (w.heap.size ≤ (w4.setCell ⟨wr.heap.size, 1, none⟩ (.string Y)).heap.size) := by rw [← hsz4]; exact Hid.mk' (by omega)
                clear HT2 hb4 h6 h7 h8 HP2 hsz4 HOa
                go_wp2_with (at_builtin; refine wpList_append_v2 _ (by rfl) _ _ rfl w.heap.size ad cap l n rfl HL.out HV4.out ⟨nm, y, false, true⟩ _ HW.out _ _ rfl HSZ4.out HBS4.out hll ?_)
                intro ad' cap' l' w5 hl' ho hb5
                have HB5 := Hid.mk' (hb5 _ _ (Nat.le_refl _) HB4.out)
                have HLL : Hid (∃ N : Nat, l'.length = N ∧ N = n + 1 ∧ Hid (N = (l ++ [(⟨nm, y, false, true⟩ : Vr)]).length) ∧ OwnV w5 w.heap.size ad' cap' (l ++ [(⟨nm, y, false, true⟩ : Vr)])) := ⟨l'.length, rfl, by rw [hl'.out, List.length_append]; have := HL.out; simp; omega, by rw [hl'.out]; exact Hid.mk' rfl, by rw [← hl'.out]; exact ho⟩
                obtain ⟨N, hN, hN1, HN, hO⟩ := HLL.out
                have HO := Hid.mk' hO
                rw [hN]
                clear ho hb5 hl' HLL hO hN HV4 HB4 HW HSZ4 HBS4
                go_wp2
                go_roundg r1.length
                case measure => omega
                case rel => exact ⟨r1, N, _, ad', cap', by rw [HTT.out], rfl, Nat.le_refl _, by omega, HN, HO, HS2, HB5⟩
            · rw [afterName, if_neg hc] at hvar
              have hc1 : ¬ (c.toNat : Int) = 1 := by omega
              have hc2 : ((c.toNat : Int) == 1) = false := by rw [beq_eq_false_iff_ne]; omega
              have HS2 := Hid.mk' (HSTEP.out _ _ hvar)
              have HW : Hid (#[.string (bs nm), .string ⟨#[]⟩, .bool false, .bool false] = (vcells ⟨nm, [], false, false⟩).toArray) := Hid.mk' rfl
              clear HNO HSTEP hvar
              generalize bs (0 :: t) = D at *
              generalize bs t = D1 at *
              generalize bs nm = NM at *
              generalize hT2 : bs (c :: q) = T2 at *
              have HTT := Hid.mk' hT2
              clear hT2
              have hg0 := hg0 (by omega)
              have hg00 := hg00 (by omega)
              go_wp2_with fail
              refine (HP1.out _).mono ?_
              rintro e w3 ⟨rfl, hb3⟩
              obtain ⟨h1, h2, h3, h5⟩ := HAB.out w3 hb3
              have f := h2.frozen
              have c0 := h2.cell (j := 0) rfl
              have c1 := h2.cell (j := 1) rfl
              have c2 := h2.cell (j := 2) rfl
              have c3 := h2.cell (j := 3) rfl
              have HB4 := Hid.mk' (h1.setCell (p := ⟨wr.heap.size, 0, none⟩) hbs (.string NM))
              have HV4 := Hid.mk' (HOa.out (w3.setCell ⟨wr.heap.size, 0, none⟩ (.string NM)) (fun k hk => by rw [setCell_other _ _ _ _ (by omega)]; exact h3 k hk))
              have hsz4 : w3.heap.size = (w3.setCell ⟨wr.heap.size, 0, none⟩ (.string NM)).heap.size := by simp [World.setCell]
              have HSZ4 := Hid.mk' hsz4
              have HBS4 : Hid (w.heap.size ≤ (w3.setCell ⟨wr.heap.size, 0, none⟩ (.string NM)).heap.size) := by rw [← hsz4]; exact Hid.mk' (by omega)
              clear HAB hb3 h1 h2 h3 HP1 hsz4 HOa
              go_wp2_with (at_builtin; refine wpList_append_v2 _ (by rfl) _ _ rfl w.heap.size ad cap l n rfl HL.out HV4.out ⟨nm, [], false, false⟩ _ HW.out _ _ rfl HSZ4.out HBS4.out hll ?_)
              intro ad' cap' l' w5 hl' ho hb5
              have HB5 := Hid.mk' (hb5 _ _ (Nat.le_refl _) HB4.out)
              have HLL : Hid (∃ N : Nat, l'.length = N ∧ N = n + 1 ∧ Hid (N = (l ++ [(⟨nm, [], false, false⟩ : Vr)]).length) ∧ OwnV w5 w.heap.size ad' cap' (l ++ [(⟨nm, [], false, false⟩ : Vr)])) := ⟨l'.length, rfl, by rw [hl'.out, List.length_append]; have := HL.out; simp; omega, by rw [hl'.out]; exact Hid.mk' rfl, by rw [← hl'.out]; exact ho⟩
              obtain ⟨N, hN, hN1, HN, hO⟩ := HLL.out
              have HO := Hid.mk' hO
              rw [hN]
              clear ho hb5 hl' HLL hO hN HV4 HB4 HW HSZ4 HBS4
              go_wp2
              go_roundg ((c :: q).length)
              case measure => simp only [List.length_cons] at hr0 ⊢; omega
              case rel => exact ⟨c :: q, N, _, ad', cap', by rw [HTT.out], rfl, Nat.le_refl _, by (simp only [List.length_cons] at hr0 ⊢; omega), HN, HO, HS2, HB5⟩
      · have hvar := var0_head (t := t) (u := true) (show isHead 3 = true from rfl) rfl
        have HP1 : Hid (∀ W, _) := fun W => piece_below t W (by omega)
        have HA := Hid.mk' (HB.out.alloc hbs (.cells #[.string ⟨#[]⟩, .string ⟨#[]⟩, .bool true, .bool false] 30))
        have HXN : Hid (Box (wr.alloc (.cells #[.string ⟨#[]⟩, .string ⟨#[]⟩, .bool true, .bool false] 30)) wr.heap.size 30 [.string ⟨#[]⟩, .string ⟨#[]⟩, .bool true, .bool false]) := Box.new wr 30 _
        have HAB : Hid (∀ W, Below (wr.alloc (.cells #[.string ⟨#[]⟩, .string ⟨#[]⟩, .bool true, .bool false] 30)).heap.size (wr.alloc (.cells #[.string ⟨#[]⟩, .string ⟨#[]⟩, .bool true, .bool false] 30)) W → Below w.heap.size w W ∧ Box W wr.heap.size 30 [.string ⟨#[]⟩, .string ⟨#[]⟩, .bool true, .bool false] ∧ (∀ k, k < wr.heap.size → W.heap[k]? = wr.heap[k]?) ∧ wr.heap.size < W.heap.size) := fun W h => ⟨HA.out.trans (h.mono HA.out.size), HXN.out.later h, fun k hk => (h.block k (by rw [World.size_alloc]; omega)).trans (Below.heap_alloc _ _ _ hk), by have := h.size; rw [World.size_alloc] at this; omega⟩
        clear HA HXN HB
        cases hw : word t with
        | none =>
          have er := HNO.out (by rw [hvar, hw]; rfl)
          simp only [Prod.mk.injEq] at er
          obtain ⟨rfl, rfl⟩ := er
          rw [pieceT_none hw] at HP1
          clear HNO HSTEP HOa hvar hw
          generalize bs (3 :: t) = D at *
          generalize bs t = D1 at *
          have hg0 := hg0 (by omega)
          go_wp2_with fail
          refine (HP1.out _).mono ?_
          rintro e w3 ⟨rfl, hb3⟩
          obtain ⟨h1, h2, h3, h5⟩ := HAB.out w3 hb3
          have f := h2.frozen
          have c0 := h2.cell (j := 0) rfl
          have HB4 := Hid.mk' (h1.setCell (p := ⟨wr.heap.size, 0, none⟩) hbs (.string ⟨#[]⟩))
          clear HAB hb3 h1 h2 h3
          go_wp2
          go_ret2
          exact ⟨none, 0, rfl, OwnV.nil _ _, HB4.out⟩
        | some p =>
          obtain ⟨nm, r0⟩ := p
          rw [pieceT_some hw] at HP1
          rw [hw] at hvar
          simp only [Option.bind_some] at hvar
          have hle := (word_some hw).1
          have hr0 : r0.length ≤ t.length := by rw [hle, List.length_append]; omega
          clear hw hle
          match r0, hr0, hvar with
          | [], hr0, hvar =>
            simp only [afterName] at hvar
            have hE0 : (bs []).toList.isEmpty = true := by rw [bs_list]; rfl
            have HX0 : Hid ((⟨#[]⟩ : ByteArray) = bs []) := Hid.mk' rfl
            have HS2 := Hid.mk' (HSTEP.out _ _ hvar)
            have HW : Hid (#[.string (bs nm), .string ⟨#[]⟩, .bool true, .bool false] = (vcells ⟨nm, [], true, false⟩).toArray) := Hid.mk' rfl
            clear HNO HSTEP hvar
            generalize bs (3 :: t) = D at *
            generalize bs t = D1 at *
            generalize bs nm = NM at *
            generalize hT2 : bs ([]) = T2 at *
            have HTT := Hid.mk' hT2
            clear hT2
            have hg0 := hg0 (by omega)
            go_wp2_with fail
            refine (HP1.out _).mono ?_
            rintro e w3 ⟨rfl, hb3⟩
            obtain ⟨h1, h2, h3, h5⟩ := HAB.out w3 hb3
            have f := h2.frozen
            have c0 := h2.cell (j := 0) rfl
            have c1 := h2.cell (j := 1) rfl
            have c2 := h2.cell (j := 2) rfl
            have c3 := h2.cell (j := 3) rfl
            have HB4 := Hid.mk' (h1.setCell (p := ⟨wr.heap.size, 0, none⟩) hbs (.string NM))
            have HV4 := Hid.mk' (HOa.out (w3.setCell ⟨wr.heap.size, 0, none⟩ (.string NM)) (fun k hk => by rw [setCell_other _ _ _ _ (by omega)]; exact h3 k hk))
            have hsz4 : w3.heap.size = (w3.setCell ⟨wr.heap.size, 0, none⟩ (.string NM)).heap.size := by simp [World.setCell]
            have HSZ4 := Hid.mk' hsz4
            have HBS4 : Hid (w.heap.size ≤ (w3.setCell ⟨wr.heap.size, 0, none⟩ (.string NM)).heap.size) := by rw [← hsz4]; exact Hid.mk' (by omega)
            clear HAB hb3 h1 h2 h3 HP1 hsz4 HOa
            go_wp2_with (at_builtin; refine wpList_append_v2 _ (by rfl) _ _ rfl w.heap.size ad cap l n rfl HL.out HV4.out ⟨nm, [], true, false⟩ _ HW.out _ _ rfl HSZ4.out HBS4.out hll ?_)
            intro ad' cap' l' w5 hl' ho hb5
            have HB5 := Hid.mk' (hb5 _ _ (Nat.le_refl _) HB4.out)
            have HLL : Hid (∃ N : Nat, l'.length = N ∧ N = n + 1 ∧ Hid (N = (l ++ [(⟨nm, [], true, false⟩ : Vr)]).length) ∧ OwnV w5 w.heap.size ad' cap' (l ++ [(⟨nm, [], true, false⟩ : Vr)])) := ⟨l'.length, rfl, by rw [hl'.out, List.length_append]; have := HL.out; simp; omega, by rw [hl'.out]; exact Hid.mk' rfl, by rw [← hl'.out]; exact ho⟩
            obtain ⟨N, hN, hN1, HN, hO⟩ := HLL.out
            have HO := Hid.mk' hO
            rw [hN]
            clear ho hb5 hl' HLL hO hN HV4 HB4 HW HSZ4 HBS4
            go_wp2
            go_roundg (0)
            case measure => omega
            case rel => exact ⟨[], N, _, ad', cap', by rw [HTT.out], rfl, Nat.le_refl _, by (simp only [List.length_nil]; omega), HN, HO, HS2, HB5⟩
          | c :: q, hr0, hvar =>
            have hE0 : (bs (c :: q)).toList.isEmpty = false := by rw [bs_list]; rfl
            have hsz0 : (bs (c :: q)).size = q.length + 1 := by rw [bs_size]; rfl
            have hg00 : ∀ h : 0 < (bs (c :: q)).size, (bs (c :: q))[0]'h = c := fun _ => rfl
            have hxd0 : (bs (c :: q)).extract 1 (q.length + 1) = bs q := by rw [← hsz0, bs_drop]; rfl
            by_cases hc : c.toNat = 1
            · have hc1 : c = 1 := UInt8.toNat_inj.1 hc
              subst hc1
              rw [afterName, if_pos (show (1 : UInt8).toNat = 1 from rfl)] at hvar
              rw [List.length_cons] at hr0
              have HP2 : Hid (∀ W, _) := fun W => piece_below q W (by omega)
              have HST2 : Hid (∀ W, Below w.heap.size w W → Box W wr.heap.size 30 [.string ⟨#[]⟩, .string ⟨#[]⟩, .bool true, .bool false] → (∀ k, k < wr.heap.size → W.heap[k]? = wr.heap[k]?) → ∀ W2, Below ((W.setCell ⟨wr.heap.size, 0, none⟩ (.string (bs nm))).setCell ⟨wr.heap.size, 3, none⟩ (.bool true)).heap.size ((W.setCell ⟨wr.heap.size, 0, none⟩ (.string (bs nm))).setCell ⟨wr.heap.size, 3, none⟩ (.bool true)) W2 → Below w.heap.size w W2 ∧ Box W2 wr.heap.size 30 [.string (bs nm), .string ⟨#[]⟩, .bool true, .bool true] ∧ (∀ k, k < wr.heap.size → W2.heap[k]? = wr.heap[k]?)) := fun W h1 h2 h3 W2 h4 => by
                have hB : Below w.heap.size w ((W.setCell ⟨wr.heap.size, 0, none⟩ (.string (bs nm))).setCell ⟨wr.heap.size, 3, none⟩ (.bool true)) := (h1.setCell (p := ⟨wr.heap.size, 0, none⟩) hbs _).setCell (p := ⟨wr.heap.size, 3, none⟩) hbs _
                refine ⟨hB.trans (h4.mono hB.size), ((h2.setCell 0 _).setCell 3 _).later h4, fun k hk => ?_⟩
                have hsW : wr.heap.size < W.heap.size := h2.lt
                have hsz : ((W.setCell ⟨wr.heap.size, 0, none⟩ (.string (bs nm))).setCell ⟨wr.heap.size, 3, none⟩ (.bool true)).heap.size = W.heap.size := by simp [World.setCell]
                rw [h4.block k (by omega), setCell_other _ _ _ _ (by omega), setCell_other _ _ _ _ (by omega)]
                exact h3 k hk
              cases hw2 : word q with
              | none =>
                have er := HNO.out (by rw [hvar, hw2]; rfl)
                simp only [Prod.mk.injEq] at er
                obtain ⟨rfl, rfl⟩ := er
                rw [pieceT_none hw2] at HP2
                clear HNO HSTEP HOa hvar hw2
                generalize bs (3 :: t) = D at *
                generalize bs t = D1 at *
                generalize bs (1 :: q) = D2 at *
                generalize bs q = D3 at *
                generalize bs nm = NM at *
                have hg0 := hg0 (by omega)
                have hg00 := hg00 (by omega)
                go_wp2_with fail
                refine (HP1.out _).mono ?_
                rintro e w3 ⟨rfl, hb3⟩
                obtain ⟨h1, h2, h3, h5⟩ := HAB.out w3 hb3
                have f := h2.frozen
                have c0 := h2.cell (j := 0) rfl
                have c3 := h2.cell (j := 3) rfl
                have HT2 := Hid.mk' (HST2.out w3 h1 h2 h3)
                clear HAB hb3 h1 h2 h3 HST2 HP1
                go_wp2_with fail
                refine (HP2.out _).mono ?_
                rintro e w4 ⟨rfl, hb4⟩
                obtain ⟨h6, h7, h8⟩ := HT2.out w4 hb4
                have f2 := h7.frozen
                have d1 := h7.cell (j := 1) rfl
                have HB4 := Hid.mk' (h6.setCell (p := ⟨wr.heap.size, 1, none⟩) hbs (.string ⟨#[]⟩))
                clear HT2 hb4 h6 h7 h8 HP2
                go_wp2
                go_ret2
                exact ⟨none, 0, rfl, OwnV.nil _ _, HB4.out⟩
              | some p2 =>
                obtain ⟨y, r1⟩ := p2
                rw [pieceT_some hw2] at HP2
                rw [hw2] at hvar
                simp only [Option.map_some] at hvar
                have hle2 := (word_some hw2).1
                have hr1 : r1.length ≤ q.length := by rw [hle2, List.length_append]; omega
                clear hw2 hle2
                have HS2 := Hid.mk' (HSTEP.out _ _ hvar)
                have HW : Hid (#[.string (bs nm), .string (bs y), .bool true, .bool true] = (vcells ⟨nm, y, true, true⟩).toArray) := Hid.mk' rfl
                clear HNO HSTEP hvar
                generalize bs (3 :: t) = D at *
                generalize bs t = D1 at *
                generalize bs (1 :: q) = D2 at *
                generalize bs q = D3 at *
                generalize bs nm = NM at *
                generalize bs y = Y at *
                generalize hT2 : bs r1 = T2 at *
                have HTT := Hid.mk' hT2
                clear hT2
                have hg0 := hg0 (by omega)
                have hg00 := hg00 (by omega)
                go_wp2_with fail
                refine (HP1.out _).mono ?_
                rintro e w3 ⟨rfl, hb3⟩
                obtain ⟨h1, h2, h3, h5⟩ := HAB.out w3 hb3
                have f := h2.frozen
                have c0 := h2.cell (j := 0) rfl
                have c3 := h2.cell (j := 3) rfl
                have HT2 := Hid.mk' (HST2.out w3 h1 h2 h3)
                clear HAB hb3 h1 h2 h3 HST2 HP1
                go_wp2_with fail
                refine (HP2.out _).mono ?_
                rintro e w4 ⟨rfl, hb4⟩
                obtain ⟨h6, h7, h8⟩ := HT2.out w4 hb4
                have f2 := h7.frozen
                have d0 := h7.cell (j := 0) rfl
                have d1 := h7.cell (j := 1) rfl
                have d2 := h7.cell (j := 2) rfl
                have d3 := h7.cell (j := 3) rfl
                have hlt4 := h7.lt
                have HB4 := Hid.mk' (h6.setCell (p := ⟨wr.heap.size, 1, none⟩) hbs (.string Y))
                have HV4 := Hid.mk' (HOa.out (w4.setCell ⟨wr.heap.size, 1, none⟩ (.string Y)) (fun k hk => by rw [setCell_other _ _ _ _ (by omega)]; exact h8 k hk))
                have hsz4 : w4.heap.size = (w4.setCell ⟨wr.heap.size, 1, none⟩ (.string Y)).heap.size := by simp [World.setCell]
                have HSZ4 := Hid.mk' hsz4
                have HBS4 : Hid (w.heap.size ≤ (w4.setCell ⟨wr.heap.size, 1, none⟩ (.string Y)).heap.size) := by rw [← hsz4]; exact Hid.mk' (by omega)
                clear HT2 hb4 h6 h7 h8 HP2 hsz4 HOa
                go_wp2_with (at_builtin; refine wpList_append_v2 _ (by rfl) _ _ rfl w.heap.size ad cap l n rfl HL.out HV4.out ⟨nm, y, true, true⟩ _ HW.out _ _ rfl HSZ4.out HBS4.out hll ?_)
                intro ad' cap' l' w5 hl' ho hb5
                have HB5 := Hid.mk' (hb5 _ _ (Nat.le_refl _) HB4.out)
                have HLL : Hid (∃ N : Nat, l'.length = N ∧ N = n + 1 ∧ Hid (N = (l ++ [(⟨nm, y, true, true⟩ : Vr)]).length) ∧ OwnV w5 w.heap.size ad' cap' (l ++ [(⟨nm, y, true, true⟩ : Vr)])) := ⟨l'.length, rfl, by rw [hl'.out, List.length_append]; have := HL.out; simp; omega, by rw [hl'.out]; exact Hid.mk' rfl, by rw [← hl'.out]; exact ho⟩
                obtain ⟨N, hN, hN1, HN, hO⟩ := HLL.out
                have HO := Hid.mk' hO
                rw [hN]
                clear ho hb5 hl' HLL hO hN HV4 HB4 HW HSZ4 HBS4
                go_wp2
                go_roundg r1.length
                case measure => omega
                case rel => exact ⟨r1, N, _, ad', cap', by rw [HTT.out], rfl, Nat.le_refl _, by omega, HN, HO, HS2, HB5⟩
            · rw [afterName, if_neg hc] at hvar
              have hc1 : ¬ (c.toNat : Int) = 1 := by omega
              have hc2 : ((c.toNat : Int) == 1) = false := by rw [beq_eq_false_iff_ne]; omega
              have HS2 := Hid.mk' (HSTEP.out _ _ hvar)
              have HW : Hid (#[.string (bs nm), .string ⟨#[]⟩, .bool true, .bool false] = (vcells ⟨nm, [], true, false⟩).toArray) := Hid.mk' rfl
              clear HNO HSTEP hvar
              generalize bs (3 :: t) = D at *
              generalize bs t = D1 at *
              generalize bs nm = NM at *
              generalize hT2 : bs (c :: q) = T2 at *
              have HTT := Hid.mk' hT2
              clear hT2
              have hg0 := hg0 (by omega)
              have hg00 := hg00 (by omega)
              go_wp2_with fail
              refine (HP1.out _).mono ?_
              rintro e w3 ⟨rfl, hb3⟩
              obtain ⟨h1, h2, h3, h5⟩ := HAB.out w3 hb3
              have f := h2.frozen
              have c0 := h2.cell (j := 0) rfl
              have c1 := h2.cell (j := 1) rfl
              have c2 := h2.cell (j := 2) rfl
              have c3 := h2.cell (j := 3) rfl
              have HB4 := Hid.mk' (h1.setCell (p := ⟨wr.heap.size, 0, none⟩) hbs (.string NM))
              have HV4 := Hid.mk' (HOa.out (w3.setCell ⟨wr.heap.size, 0, none⟩ (.string NM)) (fun k hk => by rw [setCell_other _ _ _ _ (by omega)]; exact h3 k hk))
              have hsz4 : w3.heap.size = (w3.setCell ⟨wr.heap.size, 0, none⟩ (.string NM)).heap.size := by simp [World.setCell]
              have HSZ4 := Hid.mk' hsz4
              have HBS4 : Hid (w.heap.size ≤ (w3.setCell ⟨wr.heap.size, 0, none⟩ (.string NM)).heap.size) := by rw [← hsz4]; exact Hid.mk' (by omega)
              clear HAB hb3 h1 h2 h3 HP1 hsz4 HOa
              go_wp2_with (at_builtin; refine wpList_append_v2 _ (by rfl) _ _ rfl w.heap.size ad cap l n rfl HL.out HV4.out ⟨nm, [], true, false⟩ _ HW.out _ _ rfl HSZ4.out HBS4.out hll ?_)
              intro ad' cap' l' w5 hl' ho hb5
              have HB5 := Hid.mk' (hb5 _ _ (Nat.le_refl _) HB4.out)
              have HLL : Hid (∃ N : Nat, l'.length = N ∧ N = n + 1 ∧ Hid (N = (l ++ [(⟨nm, [], true, false⟩ : Vr)]).length) ∧ OwnV w5 w.heap.size ad' cap' (l ++ [(⟨nm, [], true, false⟩ : Vr)])) := ⟨l'.length, rfl, by rw [hl'.out, List.length_append]; have := HL.out; simp; omega, by rw [hl'.out]; exact Hid.mk' rfl, by rw [← hl'.out]; exact ho⟩
              obtain ⟨N, hN, hN1, HN, hO⟩ := HLL.out
              have HO := Hid.mk' hO
              rw [hN]
              clear ho hb5 hl' HLL hO hN HV4 HB4 HW HSZ4 HBS4
              go_wp2
              go_roundg ((c :: q).length)
              case measure => simp only [List.length_cons] at hr0 ⊢; omega
              case rel => exact ⟨c :: q, N, _, ad', cap', by rw [HTT.out], rfl, Nat.le_refl _, by (simp only [List.length_cons] at hr0 ⊢; omega), HN, HO, HS2, HB5⟩
      · have er := HNO.out (by rw [var0, hb]; rfl)
        simp only [Prod.mk.injEq] at er
        obtain ⟨rfl, rfl⟩ := er
        have hb := of_decide_eq_false hb
        have q0 : ((b.toNat : Int) != 0) = true := by rw [bne_iff_ne]; omega
        have q3 : ((b.toNat : Int) != 3) = true := by rw [bne_iff_ne]; omega
        have q0' : ¬ (b.toNat : Int) = 0 := by omega
        have q3' : ¬ (b.toNat : Int) = 3 := by omega
        clear HNO HSTEP HOa
        generalize bs (b :: t) = D at *
        have hg0 := hg0 (by omega)
        go_wp2
        go_ret2
        exact ⟨none, 0, rfl, OwnV.nil _ _, HB.out⟩
end Go.Proofs.YtbfiompbngpjoaaDoor.E
