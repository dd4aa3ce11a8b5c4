/-
  Contract of farref.KeysText; condition: 38 bytes.
-/
import Derived.Test.YtfipmggdpigbkaaKAll
import Derived.Test.YtfipmggdpigbkaaKRef
import Derived.Test.YtfipmggdpigbkaaKAlloc
namespace Go.Proofs.Ytfipmggdpigbkaa.K
open Go.RowKit Go.Lib Go.Proofs.Ytfipmggdpigbkaa Go.Proofs.Ytfipmggdpigbkaa.W Go.Proofs.Ytfipmggdpigbkaa.Q

theorem Bytes_drew3 (a b c : UInt8) (W : World) : Calls Try.prog 21 #[.slice (some ⟨W.heap.size, 0, none⟩) 3 3] (W.alloc (.cells #[.int .i64 (a.toNat : Int), .int .i64 (b.toNat : Int), .int .i64 (c.toNat : Int)] 3)).drew fun e w' => e = .returned (.string (bs [a, b, c])) ∧ Below W.heap.size W w' := by
  have hb : Box (W.alloc (.cells (icells [a, b, c]).toArray 3)).drew W.heap.size 3 (icells [a, b, c]) := (Box.new W 3 (icells [a, b, c])).drew
  have H := Bytes_any [a, b, c] W.heap.size 3 (W.alloc (.cells (icells [a, b, c]).toArray 3)).drew (by simp) (fun k h => hb.cell (by unfold icells; rw [List.getElem?_map, List.getElem?_eq_getElem h]; rfl)) hb.lt
  refine H.mono ?_
  rintro e w' ⟨rfl, hh⟩
  exact ⟨rfl, (((Below.refl _ _).alloc (Nat.le_refl _) _).drew).trans (hh.mono (Nat.le_of_lt hb.lt))⟩

def XS (w : World) (k : List UInt8) (g : Nat) (s5 s12 : Value) (wr : World) : Prop :=
  ∃ (n : Nat), n ≤ 18 ∧ 18 - n ≤ g ∧ s12 = .int .i64 (n : Int) ∧ s5 = .string (bs (textN k n)) ∧ Hid (Box wr w.heap.size 24 (bcells k)) ∧ Hid (Below w.heap.size w wr)

set_option maxHeartbeats 8000000 in
theorem Text_any (k : List UInt8) (hk : k.length = 38) (w : World) :
    Calls Try.prog 12 #[KV k] w fun e w' => e = .returned (RA (allT k)) ∧ Below w.heap.size w w' := by
  have HC := Hid.mk' (KeysRight_any k hk)
  have HS := Hid.mk' (sizeKV k hk)
  rcases chk2 k with hc | hc
  · rw [allT_yes hc]
    rw [hc] at HC
    have HST : Hid (∀ wr : World, Box wr w.heap.size 24 (bcells k) → Below w.heap.size w wr → XS w k 18 (.string ⟨#[]⟩) (.int .i64 0) wr) := fun wr h1 h2 => ⟨0, Nat.zero_le _, by omega, rfl, rfl, h1, h2⟩
    unfold KV at *
    generalize hl : bcells k = l at *
    have HHL := Hid.mk' hl
    clear hl
    go_enter Try.func12, Try.ntmps12
    go_wp2_with (refine wpList_box l 24 rfl _ rfl rfl ?_)
    intro w1 m1
    have z1 := m1.lt
    have b1 := m1.box
    have HB1 := Hid.mk' (m1.below _ _ (Nat.le_refl _) (Below.refl _ w))
    go_wp2_with (refine wpList_load_box 24 24 l w.heap.size _ Try.underlying24 rfl HS.out b1 rfl _ rfl rfl ?_)
    refine (HC.out _).mono ?_
    rintro e w2 ⟨rfl, h2⟩
    have HST2 := Hid.mk' (HST.out w2 (HHL.out ▸ b1.later h2) (HB1.out.trans (h2.mono (by omega))))
    clear m1 b1 h2 HST HB1 HC
    go_wp2_with fail
    go_loopg [5, 12] 18 (fun g s5 s12 wr => XS w k g s5 s12 wr)
    case atStart => exact HST2.out
    case round =>
      obtain ⟨n, hn, hg, rfl, rfl, HB0, HBL⟩ := hrel
      clear HST2
      by_cases hlt : n < 18
      · have hu : (UInt8.ofNat (n + 1)).toNat = n + 1 := by rw [UInt8.toNat_ofNat']; omega
        have HBY : Hid (∀ W : World, Calls Try.prog 21 #[.slice (some ⟨W.heap.size, 0, none⟩) 3 3] (W.alloc (.cells #[.int .i64 ((n : Int) + 1), .int .i64 ((lv k (n + 1)).toNat : Int), .int .i64 ((ch k (n + 1)).toNat : Int)] 3)).drew fun e w' => e = .returned (.string (bs [UInt8.ofNat (n + 1), lv k (n + 1), ch k (n + 1)])) ∧ Below W.heap.size W w') := fun W => by
          have h := Bytes_drew3 (UInt8.ofNat (n + 1)) (lv k (n + 1)) (ch k (n + 1)) W
          rw [hu] at h
          exact h
        have j0 : (0 : Int) ≤ (n : Int) := by omega
        have j1 : (n : Int) < 18 := by omega
        have j2 : (0 : Int) ≤ (n : Int) + 1 := by omega
        have j3 : (n : Int) + 1 < 19 := by omega
        have e1 : IntKind.i64.wrap ((n : Int) + 1) = (n : Int) + 1 := by rw [IntKind.wrap_i64]; omega
        have d0 := bcells_lv k hk (n + 1) (by omega)
        have d1 := bcells_ch k hk (n + 1) (by omega)
        have x0 := HB0.out.drew
        have hE : Ext wr.drew wr.drew := Ext.refl _
        have hE1 : ∀ o, Ext wr.drew (wr.alloc o).drew := fun o => (show Ext wr.drew (wr.drew.alloc o) from of_eq_true (ext_alloc (Ext.refl _) o))
        have hc0 : ∀ w', Ext wr.drew w' → w'.cell? ⟨w.heap.size, n + 1, none⟩ = some (.int .u8 ((lv k (n + 1)).toNat : Int)) := fun w' h => (x0.later h).cell d0
        have hc1 : ∀ w', Ext wr.drew w' → w'.cell? ⟨w.heap.size, 19 + (n + 1), none⟩ = some (.int .u8 ((ch k (n + 1)).toNat : Int)) := fun w' h => (x0.later h).cell d1
        have HT := Hid.mk' (textN_succ k n)
        have hsz1 := bs_size (textN k n)
        have hl1 := textN_len k n
        have hsz2 := bs_size [UInt8.ofNat (n + 1), lv k (n + 1), ch k (n + 1)]
        have hcat : ¬ (9223372036854775807 < (bs (textN k n)).size + (bs [UInt8.ofNat (n + 1), lv k (n + 1), ch k (n + 1)]).size) := by
          rw [hsz1, hsz2, hl1]
          simp only [List.length_cons, List.length_nil]
          omega
        have HAP := Hid.mk' (bs_app (textN k n) [UInt8.ofNat (n + 1), lv k (n + 1), ch k (n + 1)])
        rw [← HT.out] at HAP
        have hlvb := u8_bd (lv k (n + 1))
        have hchb := u8_bd (ch k (n + 1))
        clear d0 d1 x0 hsz1 hsz2 hl1 hu HT
        generalize ((lv k (n + 1)).toNat : Int) = lx at *
        generalize ((ch k (n + 1)).toNat : Int) = cx at *
        have hw0 : IntKind.i64.wrap lx = lx := by rw [IntKind.wrap_i64]; omega
        have hw1 : IntKind.i64.wrap cx = cx := by rw [IntKind.wrap_i64]; omega
        generalize bs [UInt8.ofNat (n + 1), lv k (n + 1), ch k (n + 1)] = M at *
        generalize bs (textN k n) = T at *
        go_wp2_with fail
        go_region_held3 (fun w' => Ext wr.drew w') (first | with_reducible assumption | with_reducible exact hE1 _) ((go_at_call 21; (with_reducible refine (HBY.out _).mono ?_); rintro e wy ⟨rfl, hb⟩; have hsy : Ext wr.drew wy := (show Below wr.drew.heap.size wr.drew wy from ⟨hb.os, hb.tape, hb.output, hb.size, hb.block⟩)))
        have F0 : Hid (Box wy w.heap.size 24 (bcells k)) := HB0.out.drew.later hsy
        have FL := Hid.mk' (HBL.out.drew.trans (Below.mono hsy HBL.out.size))
        clear hE hE1 hc0 hc1 HB0 HBL hsy
        go_wp2
        go_roundg (18 - (n + 1))
        case measure => omega
        case rel => exact ⟨n + 1, by omega, by omega, by go_num, by rw [HAP.out], F0, FL⟩
      · obtain rfl : n = 18 := by omega
        have HRR : Hid (RA (text k, 0) = .tuple #[.string (bs (textN k 18)), .int .i64 0]) := rfl
        generalize bs (textN k 18) = T at *
        go_wp2
        go_ret2
        exact ⟨by rw [HRR.out]; rfl, HBL.out⟩
  · rw [allT_no hc]
    rw [hc] at HC
    unfold KV at *
    generalize hl : bcells k = l at *
    clear hl
    go_enter Try.func12, Try.ntmps12
    go_wp2_with (refine wpList_box l 24 rfl _ rfl rfl ?_)
    intro w1 m1
    have z1 := m1.lt
    have b1 := m1.box
    have HB1 := Hid.mk' (m1.below _ _ (Nat.le_refl _) (Below.refl _ w))
    go_wp2_with (refine wpList_load_box 24 24 l w.heap.size _ Try.underlying24 rfl HS.out b1 rfl _ rfl rfl ?_)
    refine (HC.out _).mono ?_
    rintro e w2 ⟨rfl, h2⟩
    have HB2 := Hid.mk' (HB1.out.trans (h2.mono (by omega)))
    clear m1 b1 h2 HB1
    go_wp2
    go_ret2
    exact ⟨rfl, HB2.out⟩
end Go.Proofs.Ytfipmggdpigbkaa.K
