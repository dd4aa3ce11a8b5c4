/-
  Contract of slc.All; condition: 38 bytes.
-/
import Derived.Test.YtfipmggdpigbkaaKTri
import Derived.Test.YtfipmggdpigbkaaKCheck
import Derived.Deep.LoopGhost
namespace Go.Proofs.Ytfipmggdpigbkaa.K
open Go.RowKit Go.Lib Go.Proofs.Ytfipmggdpigbkaa Go.Proofs.Ytfipmggdpigbkaa.W Go.Proofs.Ytfipmggdpigbkaa.Q

/-- the text of the first n functions -/
def textN (k : List UInt8) (n : Nat) : List UInt8 := (List.range n).flatMap fun f => [UInt8.ofNat (f + 1), lv k (f + 1), ch k (f + 1)]
theorem textN_zero (k : List UInt8) : textN k 0 = [] := rfl
theorem textN_succ (k : List UInt8) (n : Nat) : textN k (n + 1) = textN k n ++ [UInt8.ofNat (n + 1), lv k (n + 1), ch k (n + 1)] := by
  unfold textN
  rw [List.range_succ, List.flatMap_append]
  simp
theorem textN_all (k : List UInt8) : textN k 18 = text k := rfl
theorem textN_len (k : List UInt8) : ∀ n, (textN k n).length = 3 * n
  | 0 => rfl
  | n + 1 => by rw [textN_succ, List.length_append, textN_len k n]; simp; omega
def RA (r : List UInt8 × Int) : Value := .tuple #[.string (bs r.1), .int .i64 r.2]

theorem allT_no {k : List UInt8} (h : chk k = 4) : allT k = ([], 4) := by
  unfold allT chk at *
  split at h
  · cases h
  · rename_i hr; rw [if_neg hr]
theorem allT_yes {k : List UInt8} (h : chk k = 0) : allT k = (text k, 0) := by
  unfold allT chk at *
  split at h
  · rename_i hr; rw [if_pos hr]
  · cases h
theorem chk2 (k : List UInt8) : chk k = 0 ∨ chk k = 4 := by unfold chk; split <;> simp

def AS (w : World) (k : List UInt8) (top : Nat) (g : Nat) (s5 s6 : Value) (wr : World) : Prop :=
  ∃ (n : Nat), n ≤ 18 ∧ 18 - n ≤ g ∧ s6 = .int .u8 (((n + 1 : Nat)) : Int) ∧ Hid (Box wr w.heap.size 24 (bcells k)) ∧ Hid (OwnB wr top s5 (textN k n)) ∧ Hid (Below w.heap.size w wr) ∧ top ≤ wr.heap.size

set_option maxHeartbeats 8000000 in
theorem All_any (k : List UInt8) (hk : k.length = 38) (w : World) :
    Calls Try.prog 11 #[KV k] w fun e w' => e = .returned (RA (allT k)) ∧ Below w.heap.size w w' := by
  have HZ := Hid.mk' zeroT
  have HC := Hid.mk' (Check_any k hk)
  have HS := Hid.mk' (sizeKV k hk)
  have HH : Hid (∀ (f : UInt8), f.toNat < 19 → ∀ w, Calls Try.prog 20 #[.agg (bcells k).toArray, .int .u8 (f.toNat : Int)] w fun e w' => e = .returned (.agg (tc f (lv k f.toNat) (ch k f.toNat)).toArray) ∧ Below w.heap.size w w') := fun f hf => held_any k hk f hf
  rcases chk2 k with hc | hc
  · rw [allT_yes hc]
    rw [hc] at HC
    have HST : Hid (∀ w1 wr : World, Box wr w.heap.size 24 (bcells k) → Below w.heap.size w wr → w1.heap.size ≤ wr.heap.size → AS w k w1.heap.size 18 (.slice none 0 0) (.int .u8 1) wr) := fun w1 wr h1 h2 h3 => ⟨0, Nat.zero_le _, by omega, rfl, h1, OwnB.nil _ _, h2, h3⟩
    unfold KV at *
    generalize hl : bcells k = l at *
    have HHL := Hid.mk' hl
    clear hl
    go_enter Try.func11, Try.ntmps11
    go_wp2_with (refine wpList_box l 24 rfl _ rfl rfl ?_)
    intro w1 m1
    have z1 := m1.lt
    have b1 := m1.box
    have HB1 := Hid.mk' (m1.below _ _ (Nat.le_refl _) (Below.refl _ w))
    go_wp2_with (refine wpList_load_box 24 24 l w.heap.size _ Try.underlying24 rfl HS.out b1 rfl _ rfl rfl ?_)
    refine (HC.out _).mono ?_
    rintro e w2 ⟨rfl, h2⟩
    have z2 := h2.size
    have HST2 := Hid.mk' (HST.out w1 w2 (HHL.out ▸ b1.later h2) (HB1.out.trans (h2.mono (by omega))) z2)
    clear m1 b1 h2 HST HB1 HC
    go_wp2_with fail
    go_loopg [5, 6] 18 (fun g s5 s6 wr => AS w k w1.heap.size g s5 s6 wr)
    case atStart => exact HST2.out
    case round =>
      obtain ⟨n, hn, hg, rfl, HB0, HO, HBL, htop⟩ := hrel
      clear HST2
      by_cases hlt : n < 18
      · have hu : (UInt8.ofNat (n + 1)).toNat = n + 1 := by rw [UInt8.toNat_ofNat']; omega
        have H1 := Hid.mk' (HH.out (UInt8.ofNat (n + 1)) (by omega))
        rw [hu] at H1
        have j0 : (0 : Int) ≤ ((n + 1 : Nat) : Int) := by omega
        have j1 : ((n + 1 : Nat) : Int) ≤ 18 := by omega
        have j2 : ((n + 1 : Nat) : Int) + 1 ≤ 255 := by omega
        have HL2 := Hid.mk' (textN_len k n)
        have HT := Hid.mk' (textN_succ k n)
        have HTO := Hid.mk' (tc_one (UInt8.ofNat (n + 1)) (lv k (n + 1)) (ch k (n + 1)))
        have HTB : Hid (bcells [UInt8.ofNat (n + 1), lv k (n + 1), ch k (n + 1)] = tc (UInt8.ofNat (n + 1)) (lv k (n + 1)) (ch k (n + 1))) := rfl
        have HTL : Hid ((tc (UInt8.ofNat (n + 1)) (lv k (n + 1)) (ch k (n + 1))).length = 3) := rfl
        have HTS : Hid ((Try.prog.info? 41).map (·.size) = some (tc (UInt8.ofNat (n + 1)) (lv k (n + 1)) (ch k (n + 1))).length) := sizeT
        rw [HHL.out] at HB0
        have b0 := HB0.out
        generalize tc (UInt8.ofNat (n + 1)) (lv k (n + 1)) (ch k (n + 1)) = M at *
        have HN1 : Hid (((n + 1 : Nat) : Int) = (n : Int) + 1) := by rw [Hid]; omega
        generalize hm : ((n + 1 : Nat) : Int) = m at *
        have HM := Hid.mk' hm
        clear hm
        go_wp2_with (refine wpList_load_box 24 24 l w.heap.size _ Try.underlying24 rfl HS.out b0 rfl _ rfl rfl ?_)
        refine (H1.out _).mono ?_
        rintro e w3 ⟨rfl, h3⟩
        have c0 := b0.later h3
        have HO3 : Hid (OwnB w3 w1.heap.size u5 (textN k n)) := OwnB.below HO.out h3
        have HB3 := Hid.mk' (HBL.out.trans (Below.mono h3 HBL.out.size))
        have t3 : w1.heap.size ≤ w3.heap.size := Nat.le_trans htop h3.size
        clear b0 h3 HO HBL HB0 H1
        go_wp2_with (refine wpList_alloc (tc 0 0 0) 41 HZ.out rfl rfl ?_)
        intro w4 m4
        have z4 := m4.lt
        have c4 := m4.keep c0
        have HO4 : Hid (OwnB w4 w1.heap.size u5 (textN k n)) := OwnR.keptAt HO3.out fun j hj => m4.other _ (OwnR.lt HO3.out j hj).2
        have HB4 := Hid.mk' (m4.below w.heap.size w (by omega) HB3.out)
        go_wp2_with (refine wpList_store_box 41 41 (tc 0 0 0) M w3.heap.size HTS.out HTO.out m4.box (by rw [HTL.out]; rfl) rfl _ _ rfl rfl rfl ?_)
        intro w5 s5'
        have z5 : w5.heap.size = w4.heap.size := s5'.size
        have c5 := Hid.mk' (s5'.keep c4 (by have := c0.lt; omega))
        have d5 := Hid.mk' s5'.box
        have HO5 : Hid (OwnB w5 w1.heap.size u5 (textN k n)) := OwnR.keptAt HO4.out fun j hj => s5'.other _ (by have := (OwnR.lt HO3.out j hj).2; omega)
        have HB5 := Hid.mk' (s5'.below w.heap.size w (by have := HB3.out.size; omega) HB4.out)
        have t5 : w1.heap.size ≤ w5.heap.size := by omega
        clear m4 s5' c0 c4 HO3 HO4 HB3 HB4
        obtain ⟨i0, hi', hz0, hz1, hz2⟩ := info_parts infoByte
        go_wp2_with (at_builtin; refine wpList_append_R _ rfl _ _ _ rfl w1.heap.size 5 i0 (.int .u8 0) 1 1 Try.underlying36 hi' hz0 hz1 hz2 rfl (by decide) u5 (textN k n).length (bcells (textN k n)) rfl HO5.out ⟨w3.heap.size, 0, none⟩ 3 3 M rfl (by rw [HTL.out]) (fun j u hu => by rw [Addr.add_mid, Nat.zero_add]; exact d5.out.cell hu) HTO.out (by decide) (by rw [HL2.out]; unfold maxLen; omega) (by rw [HL2.out]; omega) t5 _ rfl ?_)
        intro g2 cap wH a2 a3 a4 a5
        have hbk : ∀ b, b < w1.heap.size → b < w5.heap.size → wH.heap[b]? = w5.heap[b]? := fun b h1 h2 => a3.block b h2 (fun e => by have := (OwnR.lt HO5.out b e.symm).1; omega)
        have F0 := Hid.mk' (c5.out.kept (hbk _ (by omega) c5.out.lt))
        have FL := Hid.mk' (HB5.out.grown a3 HB5.out.size (fun k hk => by have := (OwnR.lt HO5.out k hk).1; omega))
        have ftop : w1.heap.size ≤ wH.heap.size := Nat.le_trans t5 a3.size
        have FO : Hid (OwnB wH w1.heap.size (.slice (some ⟨g2, 0, none⟩) ((textN k n).length + 3) cap) (textN k (n + 1))) := by
          unfold Hid OwnB
          rw [HT.out, bcells_app, List.length_append, HTB.out]
          exact a2
        have HNN : Hid (m + 1 = (((n + 1) + 1 : Nat) : Int)) := by rw [Hid, ← HM.out]; omega
        clear a2 a3 a4 a5 hbk d5 c5 HO5 HB5
        go_wp2
        go_roundg (18 - (n + 1))
        case measure => omega
        case rel => exact ⟨n + 1, by omega, by omega, by rw [HNN.out], by rw [HHL.out]; exact F0, FO, FL, ftop⟩
      · obtain rfl : n = 18 := by omega
        have hcv := run_str HO.out
        rw [textN_all] at hcv
        have HRR : Hid (RA (text k, 0) = .tuple #[.string (bs (text k)), .int .i64 0]) := rfl
        have hcv2 : (convert 36 9 u5).run Try.prog wr = .ok (.string (bs (text k))) wr := hcv
        clear hcv
        go_wp2
        go_ret2
        exact ⟨by rw [HRR.out]; rfl, HBL.out⟩
  · rw [allT_no hc]
    rw [hc] at HC
    unfold KV at *
    generalize hl : bcells k = l at *
    clear hl
    go_enter Try.func11, Try.ntmps11
    go_wp2_with (refine wpList_box l 24 rfl _ rfl rfl ?_)
    intro w1 m1
    have z1 := m1.lt
    have b1 := m1.box
    have HB1 := Hid.mk' (m1.below _ _ (Nat.le_refl _) (Below.refl _ w))
    go_wp2_with (refine wpList_load_box 24 24 l w.heap.size _ Try.underlying24 rfl HS.out b1 rfl _ rfl rfl ?_)
    refine (HC.out _).mono ?_
    rintro e w2 ⟨rfl, h2⟩
    have HB2 := Hid.mk' (HB1.out.trans (h2.mono (by omega)))
    clear m1 b1 h2 HB1
    go_wp2
    go_ret2
    exact ⟨rfl, HB2.out⟩
end Go.Proofs.Ytfipmggdpigbkaa.K
