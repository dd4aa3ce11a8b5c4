/-
  Contract of mask.Of; condition: a text of at most 2^62 bytes.
-/
import Derived.Test.YtipdnkkkigmkdaaDoorHCells
import Derived.BigQuiet
import Derived.BigRegion
import Derived.Deep.LoopGhost
namespace Go.Proofs.YtipdnkkkigmkdaaDoor.H
open Go.RowKit Go.Lib Go.Proofs.YtipdnkkkigmkdaaDoor Go.Proofs.YtipdnkkkigmkdaaDoor.W Go.Proofs.YtipdnkkkigmkdaaDoor.Q

def OS (w w1 : World) (l : List UInt8) (g : Nat) (s7 : Value) (wr : World) : Prop :=
  ∃ (n : Nat), n ≤ l.length ∧ l.length - n ≤ g ∧ s7 = .int .i64 (n : Int) ∧ Hid (Box wr w1.heap.size 25 (ucells (ofL (l.take n)))) ∧ Hid (∃ z : List Value, z.length = 4 ∧ Box wr w.heap.size 25 z) ∧ Hid (Below w.heap.size w wr)

set_option maxHeartbeats 4000000 in
theorem Of_any (l : List UInt8) (hl : l.length ≤ 4611686018427387904) (w : World) :
    Calls Tryd.prog 11 #[.string (bs l)] w fun e w' => e = .returned (MV (ofL l)) ∧ Below w.heap.size w w' := by
  have HST : Hid (∀ w1 wr : World, Box wr w1.heap.size 25 (ucells noW) → (∃ z : List Value, z.length = 4 ∧ Box wr w.heap.size 25 z) → Below w.heap.size w wr → OS w w1 l l.length (.int .i64 0) wr) := fun w1 wr h1 h2 h3 => ⟨0, Nat.zero_le _, by omega, rfl, h1, h2, h3⟩
  have hsz := bs_size l
  have HG : Hid (∀ (k : Nat) (h : k < l.length) (h2 : k < (bs l).size), (bs l)[k]'h2 = l[k]'h) := bs_get l
  generalize bs l = S at *
  go_enter Tryd.func11, Tryd.ntmps11
  go_wp2_with (refine wpList_alloc (ucells noW) 25 zeroM rfl rfl ?_)
  intro w1 m1
  have z1 := m1.lt
  go_wp2_with (refine wpList_alloc (ucells noW) 25 zeroM rfl rfl ?_)
  intro w2 m2
  have z2 := m2.lt
  have HST2 := Hid.mk' (HST.out w1 w2 m2.box ⟨_, rfl, m2.keep m1.box⟩ (m2.below _ _ (by omega) (m1.below _ _ (Nat.le_refl _) (Below.refl _ w))))
  clear m1 m2 HST
  go_wp2_with fail
  go_loopg [7] l.length (fun g s7 wr => OS w w1 l g s7 wr)
  case atStart => exact HST2.out
  case round =>
    obtain ⟨n, hn, hg, rfl, HB, HZ, HBL⟩ := hrel
    clear HST2
    by_cases hlt : n < l.length
    · have hlt2 : n < S.size := by omega
      have hgt := HG.out n hlt hlt2
      have HT : Hid (ofL (l.take (n + 1)) = setB (ofL (l.take n)) (l[n]'hlt).toNat) := by
        rw [List.take_add_one, List.getElem?_eq_getElem hlt]
        exact ofL_snoc _ _
      have hok := ok_ofL (l.take n)
      generalize ofL (l.take n) = M at *
      have hb := (l[n]'hlt).toNat_lt
      generalize l[n]'hlt = b at *
      have hc := HB.out.cell (ucells_get M (b.toNat / 64) (by rw [hok.1]; omega))
      have hf := HB.out.frozen (b.toNat / 64)
      have hx := hok.get (b.toNat / 64)
      have HM : Hid (setB M b.toNat = M.set (b.toNat / 64) (M.getD (b.toNat / 64) 0 ||| 2 ^ (b.toNat % 64))) := rfl
      generalize M.getD (b.toNat / 64) 0 = x at *
      have h8 : min (b.toNat % 64) 64 = b.toNat % 64 := by omega
      have h9 : IntKind.u64.wrap ((2 : Int) ^ (b.toNat % 64)) = 2 ^ (b.toNat % 64) := wrap_two _ (by omega)
      go_wp2_with fail
      go_region
      rw [or_two x _ hx (by omega)]
      have F0 : Hid (Box (wr.setCell ⟨w1.heap.size, b.toNat / 64, none⟩ (.int .u64 ((x ||| 2 ^ (b.toNat % 64) : Nat) : Int))).drew w1.heap.size 25 (ucells (ofL (l.take (n + 1))))) := by
        rw [Hid, HT.out, HM.out, ucells_set]
        exact (HB.out.setCell _ _).drew
      have FZ : Hid (∃ z : List Value, z.length = 4 ∧ Box (wr.setCell ⟨w1.heap.size, b.toNat / 64, none⟩ (.int .u64 ((x ||| 2 ^ (b.toNat % 64) : Nat) : Int))).drew w.heap.size 25 z) := by
        obtain ⟨z, hz, hb⟩ := HZ.out
        exact ⟨z, hz, (hb.kept (setCell_other _ _ _ _ (by omega))).drew⟩
      have FB : Hid (Below w.heap.size w (wr.setCell ⟨w1.heap.size, b.toNat / 64, none⟩ (.int .u64 ((x ||| 2 ^ (b.toNat % 64) : Nat) : Int))).drew) := (HBL.out.setCell (p := ⟨w1.heap.size, b.toNat / 64, none⟩) (by show w.heap.size ≤ w1.heap.size; omega) _).drew
      generalize (wr.setCell ⟨w1.heap.size, b.toNat / 64, none⟩ (.int .u64 ((x ||| 2 ^ (b.toNat % 64) : Nat) : Int))).drew = w3 at *
      clear hc hf HB HZ HBL HT HM
      go_wp2
      go_roundg (l.length - (n + 1))
      case measure => omega
      case rel => exact ⟨n + 1, by omega, by omega, by go_num, F0, FZ, FB⟩
    · obtain rfl : n = l.length := by omega
      have hok := ok_ofL l
      rw [List.take_length] at HB
      obtain ⟨z, hz, hZ⟩ := HZ.out
      have HSZ := Hid.mk' (sizeMV hok)
      have HON := Hid.mk' (ucells_one (ofL l))
      have HLN : Hid ((ucells (ofL l)).length = 4) := by rw [Hid, ucells_length, hok.1]
      have b0 := HB.out
      go_wp2_with (first | (with_reducible refine wpList_load_box 25 25 (ucells (ofL l)) w1.heap.size _ Tryd.underlying25 rfl HSZ.out b0 rfl _ rfl rfl ?_) | (refine wpList_store_box 25 25 z (ucells (ofL l)) w.heap.size HSZ.out HON.out hZ (by rw [hz, HLN.out]) rfl _ _ rfl rfl rfl ?_))
      intro w4 s4
      have HB4 := Hid.mk' (s4.below w.heap.size w (Nat.le_refl _) HBL.out)
      have b4 := s4.box
      go_wp2
      exact ret_box Tryd.results11 25 (ucells (ofL l)) w.heap.size _ Tryd.underlying25 rfl HSZ.out rfl b4 rfl ⟨rfl, HB4.out⟩
end Go.Proofs.YtipdnkkkigmkdaaDoor.H
