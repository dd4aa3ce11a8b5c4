/-
  Contracts of args.withDigit, of the closure within args.Read, and of args.Read; no condition but a text's length of at most 2^62.
-/
import Derived.Test.YtneiiinheimglaaDoorZMem
import Derived.BigQuiet
import Derived.Deep.LoopGhost
namespace Go.Proofs.YtneiiinheimglaaDoor.Z
open Go.RowKit Go.Lib Go.Proofs.YtneiiinheimglaaDoor Go.Proofs.YtneiiinheimglaaDoor.W Go.Proofs.YtneiiinheimglaaDoor.Q Go.Proofs.YtneiiinheimglaaDoor.C

set_option maxHeartbeats 1000000 in
theorem withDigit_any (n d : Int) (w : World) (hn : right n) (h0 : 0 ≤ d) (h9 : d ≤ 9) :
    Calls Tryd.prog 72 #[.int .i64 n, .int .i64 d] w fun e w' => e = .returned (.int .i64 (wd n d)) ∧ w' = w := by
  unfold right at hn
  obtain ⟨h1, h2⟩ := hn
  have hm : max n 0 ≤ 16383 := by omega
  have hm0 : 0 ≤ max n 0 := by omega
  unfold wd
  go_enter Tryd.func72, Tryd.ntmps72
  go_wp2
  all_goals
    go_ret
    refine ⟨?_, rfl⟩
    show Ending.returned (Value.int .i64 _) = _
    congr 2
    omega

set_option maxHeartbeats 4000000 in
theorem end_any (b4 b5 base : Nat) (sl : Value) (n : Int) (l : List Int) (w : World) (h4 : Box w b4 24 [sl]) (h5 : Box w b5 3 [.int .i64 n]) (ho : OwnI w base sl l) (hl : l.length ≤ 32) (h45 : b4 < b5) (h5b : b5 < base) (hb : base ≤ w.heap.size) :
    Calls Tryd.prog 71 #[.pointer (some ⟨b4, 0, none⟩), .pointer (some ⟨b5, 0, none⟩)] w fun e w' => e = .returned (.tuple #[]) ∧ ∃ sl', Box w' b4 24 [sl'] ∧ Box w' b5 3 [.int .i64 (-1)] ∧ OwnI w' base sl' (put l n) ∧ ∀ B W, B ≤ b4 → Below B W w → Below B W w' := by
  have c4 : w.cell? ⟨b4, 0, none⟩ = some sl := h4.cell (j := 0) rfl
  have c5 : w.cell? ⟨b5, 0, none⟩ = some (.int .i64 n) := h5.cell (j := 0) rfl
  have f5 := h5.frozen 0
  have H4 := Hid.mk' h4
  have H5 := Hid.mk' h5
  have HO := Hid.mk' ho
  clear h4 h5 ho
  obtain ⟨al, cl, e1⟩ : ∃ al cl, sl = .slice al l.length cl := by
    obtain ⟨a, c, h, _⟩ := RdI.own HO.out
    exact ⟨a, c, h⟩
  by_cases hlt : l.length < 32
  · have hlt1 : (l.length : Int) < 32 := by omega
    have hpt : put l n = l ++ [n] := if_pos hlt
    have HPT : Hid (∀ W v, OwnI W base v (l ++ [n]) → OwnI W base v (put l n)) := fun W v h => by rw [hpt]; exact h
    have HW : Hid (#[.int .i64 n] = (icells [n]).toArray) := Hid.mk' rfl
    clear hpt hl
    subst e1
    go_enter Tryd.func71, Tryd.ntmps71
    go_wp2_with (at_builtin; refine wpList_append_i _ (by rfl) _ _ rfl base (.slice al l.length cl) l [n] rfl HO.out _ HW.out _ _ rfl rfl (by simp) hb ?c1 ?_)
    case c1 => simp; omega
    intro v0 w' ho' hbl
    obtain ⟨al2, cl2, n2, e2⟩ : ∃ al cl n2, v0 = .slice al n2 cl := by
      obtain ⟨a, c, h, _⟩ := RdI.own ho'
      exact ⟨a, c, _, h⟩
    subst e2
    have hB := hbl base w (Nat.le_refl _) (Below.refl base w)
    have h4 := H4.out.below hB (by omega)
    have h5 := H5.out.below hB h5b
    have c4' : w'.cell? ⟨b4, 0, none⟩ = some (.slice al l.length cl) := h4.cell (j := 0) rfl
    have f4' := h4.frozen 0
    have c5' : (w'.setCell ⟨b4, 0, none⟩ (.slice al2 n2 cl2)).cell? ⟨b5, 0, none⟩ = some (.int .i64 n) := (h5.kept (setCell_other w' b4 0 _ (by omega))).cell (j := 0) rfl
    have f5' : (w'.setCell ⟨b4, 0, none⟩ (.slice al2 n2 cl2)).frozen? ⟨b5, 0, none⟩ = false := (h5.kept (setCell_other w' b4 0 _ (by omega))).frozen 0
    have HF : Hid (∃ sl', Box ((w'.setCell ⟨b4, 0, none⟩ (.slice al2 n2 cl2)).setCell ⟨b5, 0, none⟩ (.int .i64 (-1))) b4 24 [sl'] ∧ Box ((w'.setCell ⟨b4, 0, none⟩ (.slice al2 n2 cl2)).setCell ⟨b5, 0, none⟩ (.int .i64 (-1))) b5 3 [.int .i64 (-1)] ∧ OwnI ((w'.setCell ⟨b4, 0, none⟩ (.slice al2 n2 cl2)).setCell ⟨b5, 0, none⟩ (.int .i64 (-1))) base sl' (put l n) ∧ ∀ B W, B ≤ b4 → Below B W w → Below B W ((w'.setCell ⟨b4, 0, none⟩ (.slice al2 n2 cl2)).setCell ⟨b5, 0, none⟩ (.int .i64 (-1)))) := by
      refine ⟨_, (h4.setCell 0 (.slice al2 n2 cl2)).kept (setCell_other _ b5 0 _ (by omega)), (h5.kept (setCell_other w' b4 0 _ (by omega))).setCell 0 _, HPT.out _ _ (ho'.keptAt fun k hk => ?_), fun B W hBb hW => ((hbl B W (by omega) hW).setCell (p := ⟨b4, 0, none⟩) hBb _).setCell (p := ⟨b5, 0, none⟩) (by show B ≤ b5; omega) _⟩
      have := (ho'.lt k hk).1
      rw [setCell_other _ b5 0 _ (by omega), setCell_other _ b4 0 _ (by omega)]
    clear H4 H5 HO HPT h4 h5 hB hbl ho' c4 c5 f5
    go_wp2
    go_end0
    exact ⟨rfl, HF.out⟩
  · have hlt1 : ¬ (l.length : Int) < 32 := by omega
    have hpt : put l n = l := if_neg hlt
    have HF : Hid (∃ sl', Box (w.setCell ⟨b5, 0, none⟩ (.int .i64 (-1))) b4 24 [sl'] ∧ Box (w.setCell ⟨b5, 0, none⟩ (.int .i64 (-1))) b5 3 [.int .i64 (-1)] ∧ OwnI (w.setCell ⟨b5, 0, none⟩ (.int .i64 (-1))) base sl' (put l n) ∧ ∀ B W, B ≤ b4 → Below B W w → Below B W (w.setCell ⟨b5, 0, none⟩ (.int .i64 (-1)))) := by
      refine ⟨sl, H4.out.kept (setCell_other _ b5 0 _ (by omega)), H5.out.setCell 0 _, ?_, fun B W hBb hW => hW.setCell (p := ⟨b5, 0, none⟩) (by show B ≤ b5; omega) _⟩
      rw [hpt]
      exact HO.out.keptAt fun k hk => by
        have := (HO.out.lt k hk).1
        rw [setCell_other _ b5 0 _ (by omega)]
    clear H4 H5 HO hpt
    subst e1
    go_enter Tryd.func71, Tryd.ntmps71
    go_wp2
    go_end0
    exact ⟨rfl, HF.out⟩

def RS (w : World) (s : List UInt8) (g : Nat) (s12 : Value) (wr : World) : Prop :=
  ∃ (k : Nat) (sl : Value) (n : Int) (l : List Int), k ≤ s.length ∧ s.length - k ≤ g ∧ s12 = .int .i64 (k : Int) ∧ Hid (Box wr w.heap.size 24 [sl]) ∧ Hid (Box wr (w.heap.size + 1) 3 [.int .i64 n]) ∧ Hid (OwnI wr (w.heap.size + 2) sl l) ∧
    Hid (okS s = okS (s.drop k)) ∧ Hid (rd s (-1) [] = rd (s.drop k) n l) ∧ Hid (l.length ≤ 32) ∧ Hid (right n) ∧ Hid (Below w.heap.size w wr) ∧ Hid (w.heap.size + 2 ≤ wr.heap.size)

theorem OwnI.weak {w : World} {B B' : Nat} {v : Value} {l : List Int} (h : OwnI w B v l) (hB : B' ≤ B) : OwnI w B' v l := by
  unfold OwnI OwnR at *
  refine ⟨h.1, ?_⟩
  rcases h.2 with hn | ⟨g, cap, cur, fz, e, hb, rest⟩
  · exact .inl hn
  · exact .inr ⟨g, cap, cur, fz, e, by omega, rest⟩
theorem rd_dig {b : UInt8} {r : List UInt8} {n : Int} {l : List Int} (h : dig b = true) : rd (b :: r) n l = rd r (wd n ((b.toNat : Int) - 48)) l := by
  rw [rd, if_neg (dig_not h)]
theorem ok_dig {b : UInt8} {r : List UInt8} (h : okB b = true) : okS (b :: r) = okS r := by
  unfold okS
  rw [List.all_cons, h, Bool.true_and]
theorem ok_no {b : UInt8} {r : List UInt8} (h : okB b = false) : okS (b :: r) = false := by
  unfold okS
  rw [List.all_cons, h, Bool.false_and]
theorem okB_dig {b : UInt8} (h : dig b = true) : okB b = true := by unfold okB; rw [h]; rfl

set_option maxHeartbeats 8000000 in
theorem Read_any (s : List UInt8) (w : World) (hs : s.length ≤ 4611686018427387904) :
    Calls Tryd.prog 51 #[.string (bs s)] w fun e w' => ∃ v, e = .returned (.tuple #[v, .int .i64 (readT s).2]) ∧ OwnI w' w.heap.size v (readT s).1 ∧ Below w.heap.size w w' := by
  have HEND := Hid.mk' (fun sl n l wr => end_any w.heap.size (w.heap.size + 1) (w.heap.size + 2) sl n l wr)
  have hsz := bs_size s
  have HG : Hid (∀ k (h : k < s.length) (h2 : k < (bs s).size), (bs s)[k]'h2 = s[k]'h) := fun k h h2 => get_mk s k h h2
  have HB0 : Hid (RS w s s.length (.int .i64 0) ((w.alloc (.cells #[.slice none 0 0] 24)).alloc (.cells #[.int .i64 (-1)] 3))) := by
    refine ⟨0, .slice none 0 0, -1, [], Nat.zero_le _, by omega, rfl, (Box.new w 24 [.slice none 0 0]).alloc _, ?_, OwnI.nil _ _, rfl, rfl, by rw [Hid]; decide, by rw [Hid]; unfold right; omega, ((Below.refl _ _).alloc (Nat.le_refl _) _).alloc (by simp) _, ?_⟩
    · have := Box.new (w.alloc (.cells #[.slice none 0 0] 24)) 3 [.int .i64 (-1)]
      rw [World.size_alloc] at this
      exact this
    · rw [Hid]; simp
  generalize hS : bs s = S at *
  clear hS
  generalize hR0 : readT s = R at *
  have HRT := Hid.mk' hR0
  clear hR0
  go_enter Tryd.func51, Tryd.ntmps51
  go_wp2_with fail
  go_loopg [12] s.length (fun g s12 wr => RS w s g s12 wr)
  case atStart => exact HB0.out
  case round =>
    obtain ⟨k, sl, n, l, hk, hg, rfl, H4, H5, HO, HOK, HRD, HL, HR, HBL, HSZ⟩ := hrel
    clear HB0
    have HGM := Hid.mk' hg
    clear hg
    by_cases hlt : k < s.length
    · have hgt := HG.out k hlt (by omega)
      have hdrop : s.drop k = s[k] :: s.drop (k + 1) := List.drop_eq_getElem_cons hlt
      rw [hdrop] at HOK HRD
      clear hdrop HG
      have c5 : wr.cell? ⟨w.heap.size + 1, 0, none⟩ = some (.int .i64 n) := H5.out.cell (j := 0) rfl
      have f5 := H5.out.frozen 0
      generalize s[k] = b at *
      have hb := b.toNat_lt
      have hgt2 : ((S[k]'(by omega)).toNat : Int) = (b.toNat : Int) := by rw [hgt]
      clear hgt
      have HY : Hid (∃ y : Int, y = (b.toNat : Int)) := ⟨_, rfl⟩
      by_cases hd : dig b = true
      · obtain ⟨d1, d2⟩ := dig_iff.1 hd
        have HK := Hid.mk' (withDigit_any n ((b.toNat : Int) - 48) wr HR.out (by omega) (by omega))
        have HN : Hid (RS w s (s.length - (k + 1)) (.int .i64 ((k : Int) + 1)) (wr.setCell ⟨w.heap.size + 1, 0, none⟩ (.int .i64 (wd n ((b.toNat : Int) - 48))))) := by
          refine ⟨k + 1, sl, _, l, by omega, Nat.le_refl _, by simp, H4.out.kept (setCell_other _ _ _ _ (by omega)), H5.out.setCell 0 _, ?_, ?_, ?_, HL, ?_, HBL.out.setCell (by simp) _, by rw [Hid]; have := HSZ.out; simpa [World.setCell] using this⟩
          · exact HO.out.keptAt fun q hq => by
              have := (HO.out.lt q hq).1
              rw [setCell_other _ _ _ _ (by omega)]
          · rw [Hid, HOK.out, ok_dig (okB_dig hd)]
          · rw [Hid, HRD.out, rd_dig hd]
          · rw [Hid]; exact wd_bound (by omega)
        clear H4 H5 HO HOK HRD HL HR HBL HSZ hd HEND
        have e1 : (48 : Int) ≤ (b.toNat : Int) := by omega
        have e2 : (b.toNat : Int) ≤ 57 := by omega
        clear d1 d2 hb HY
        generalize (b.toNat : Int) = y at *
        go_wp2_with fail
        refine HK.out.mono ?_
        rintro e w2 ⟨rfl, rfl⟩
        go_wp2
        go_roundg (s.length - (k + 1))
        case measure => have := HGM.out; omega
        case rel => exact HN.out
      · by_cases h59 : b = 59
        · have HK := Hid.mk' (HEND.out sl n l wr H4.out H5.out HO.out HL.out (by omega) (by omega) HSZ.out)
          have HN : Hid (∀ w2 sl', Box w2 w.heap.size 24 [sl'] → Box w2 (w.heap.size + 1) 3 [.int .i64 (-1)] → OwnI w2 (w.heap.size + 2) sl' (put l n) → (∀ B W, B ≤ w.heap.size → Below B W wr → Below B W w2) → RS w s (s.length - (k + 1)) (.int .i64 ((k : Int) + 1)) w2) := fun w2 sl' a1 a2 a3 a4 => by
            refine ⟨k + 1, sl', -1, put l n, by omega, Nat.le_refl _, by simp, a1, a2, a3, ?_, ?_, put_length n HL.out, ?_, a4 _ _ (Nat.le_refl _) HBL.out, by rw [Hid]; have := a2.lt; omega⟩
            · rw [Hid, HOK.out, h59, ok_dig (by decide)]
            · rw [Hid, HRD.out, rd, if_pos h59]
            · rw [Hid]; unfold right; omega
          clear H4 H5 HO HOK HRD HL HR HBL HSZ hd HEND c5 f5
          subst h59
          rw [show (((59 : UInt8).toNat : Nat) : Int) = 59 from rfl] at hgt2
          go_wp2_with fail
          refine HK.out.mono ?_
          rintro e w2 ⟨rfl, sl', a1, a2, a3, a4⟩
          have HN2 := Hid.mk' (HN.out w2 sl' a1 a2 a3 a4)
          clear a1 a2 a3 a4 HN
          go_wp2
          go_roundg (s.length - (k + 1))
          case measure => have := HGM.out; omega
          case rel => exact HN2.out
        · have hok : okB b = false := by
            unfold okB
            rw [Bool.eq_false_iff.2 hd, beq_false_of_ne h59]; rfl
          have e9 : R = ([], 4) := by
            rw [← HRT.out]
            unfold readT
            rw [if_neg (by rw [HOK.out, ok_no hok]; decide)]
          clear HRT
          subst e9
          have e1 : ¬ (b.toNat : Int) = 59 := fun h => h59 (UInt8.toNat_inj.1 (by show b.toNat = 59; omega))
          have e2 : ¬ (48 : Int) ≤ (b.toNat : Int) ∨ ((48 : Int) ≤ (b.toNat : Int) ∧ ¬ (b.toNat : Int) ≤ 57) := by
            by_cases h : (48 : Int) ≤ (b.toNat : Int)
            · refine .inr ⟨h, fun h2 => hd (dig_iff.2 (by omega))⟩
            · exact .inl h
          clear H4 H5 HO HOK HRD HL HR HSZ hd HEND c5 f5 hok h59 hb HY
          generalize (b.toNat : Int) = y at *
          have e3 : (y == (((⟨#[59]⟩ : ByteArray)[0]'(by decide)).toNat : Int)) = false := beq_false_of_ne e1
          rcases e2 with h | ⟨h, h2⟩
          · go_wp2
            go_ret2
            exact ⟨_, rfl, OwnI.nil _ _, HBL.out⟩
          · go_wp2
            go_ret2
            exact ⟨_, rfl, OwnI.nil _ _, HBL.out⟩
    · obtain rfl : k = s.length := by omega
      rw [List.drop_length] at HOK HRD
      have e9 : R = (put l n, 0) := by
        rw [← HRT.out]
        unfold readT
        rw [if_pos (show okS s = true from HOK.out), HRD.out]
        rfl
      clear HRT
      subst e9
      have HK := Hid.mk' (HEND.out sl n l wr H4.out H5.out HO.out HL.out (by omega) (by omega) HSZ.out)
      clear H4 H5 HO HOK HRD HL HR HSZ HEND HG
      go_wp2_with fail
      refine HK.out.mono ?_
      rintro e w2 ⟨rfl, sl', a1, a2, a3, a4⟩
      have c4 : w2.cell? ⟨w.heap.size, 0, none⟩ = some sl' := a1.cell (j := 0) rfl
      have HB2 := Hid.mk' (a4 _ _ (Nat.le_refl _) HBL.out)
      have HO2 := Hid.mk' (a3.weak (show w.heap.size ≤ w.heap.size + 2 by omega))
      clear a1 a2 a3 a4 HBL
      go_wp2
      go_ret2
      exact ⟨_, rfl, HO2.out, HB2.out⟩
end Go.Proofs.YtneiiinheimglaaDoor.Z
