/-
  Contract of farref.Beginning and farref.PartRight: whether a string is a beginning; conditions: at most 1073741824 bytes.
-/
import Derived.Test.YtjnopjjbndknfaaDoorURef
import Derived.Test.YtjnopjjbndknfaaDoorUBeg0
import Derived.Test.YtjnopjjbndknfaaDoorUShelf3
namespace Go.Proofs.YtjnopjjbndknfaaDoor.U
open Go.RowKit Go.Lib Go.Proofs.YtjnopjjbndknfaaDoor

def fillBlock : Obj := .cells #[.string ⟨#[128]⟩, .string ⟨#[191]⟩, .string ⟨#[160, 128]⟩, .string ⟨#[144, 128, 128]⟩, .string ⟨#[159, 191]⟩, .string ⟨#[143, 191, 191]⟩, .string ⟨#[160, 191]⟩] 9
theorem fill_cell (w : World) (j : Nat) (hj : j < 7) : (w.alloc (.cells #[.string ⟨#[128]⟩, .string ⟨#[191]⟩, .string ⟨#[160, 128]⟩, .string ⟨#[144, 128, 128]⟩, .string ⟨#[159, 191]⟩, .string ⟨#[143, 191, 191]⟩, .string ⟨#[160, 191]⟩] 9)).cell? ⟨w.heap.size, j, none⟩ = some (.string ⟨(fill j).toArray⟩) := by
  rw [cell_of_row _ _ _ _ _ _ (MapKept.heap_alloc w _).1]
  rcases (by omega : j = 0 ∨ j = 1 ∨ j = 2 ∨ j = 3 ∨ j = 4 ∨ j = 5 ∨ j = 6) with rfl | rfl | rfl | rfl | rfl | rfl | rfl <;> rfl

def OState (L : List UInt8) (w : World) (g : Nat) (s2 s : Value) (wr : World) : Prop :=
  s2 = .bool false ∧ ∃ n : Nat, 5 - n ≤ g ∧ L.length < n ∧ (L.length ≤ 4 → n ≤ 5) ∧ (4 < L.length → n = L.length + 1) ∧ s = .int .i64 (n : Int) ∧ Below w.heap.size w wr ∧ ∀ n' j, L.length < n' → n' < n → j < 7 → whole (cand L (fill j) n') = false
def IState (L : List UInt8) (n : Nat) (w : World) (g : Nat) (s2 s : Value) (wr : World) : Prop :=
  s2 = .bool false ∧ ∃ j : Nat, 7 - j ≤ g ∧ j ≤ 7 ∧ s = .int .i64 (j : Int) ∧ Below w.heap.size w wr ∧ ∀ j', j' < j → whole (cand L (fill j') n) = false

set_option maxHeartbeats 8000000 in
set_option maxRecDepth 100000 in
theorem Beginning_some (L : List UInt8) (w : World) (h0 : L ≠ []) (hl : L.length ≤ 1073741824) :
    Calls Tryd.prog 42 #[.string ⟨L.toArray⟩] w fun e w' => e = .returned (.bool (beg L)) ∧ Below w.heap.size w w' := by
  have hsz : (⟨L.toArray⟩ : ByteArray).size = L.length := by simp [ByteArray.size]
  have he := str_empty h0
  have hLe : L.isEmpty = false := by
    cases L with
    | nil => exact absurd rfl h0
    | cons a t => rfl
  have HS : Hid (OState L w 5 (.bool false) (.int .i64 ((L.length : Int) + 1)) w) := ⟨rfl, L.length + 1, by omega, by omega, by omega, by omega, by simp, Below.refl _ _, fun n' j h1 h2 => by omega⟩
  have HNO : Hid ((∀ n' j, L.length < n' → n' ≤ 4 → j < 7 → whole (cand L (fill j) n') = false) → beg L = false) := fun h => by
    cases hb : beg L with
    | false => rfl
    | true =>
      obtain ⟨n, j, h1, h2, h3, h4⟩ := beg_cand L hb
      rw [h n j h1 h2 h3] at h4; cases h4
  go_enter Tryd.func42, Tryd.ntmps42
  go_wp2_with fail
  go_loopg [2, 3] 5 (fun g s2 s wr => OState L w g s2 s wr)
  case atStart => exact HS.out
  case round =>
    obtain ⟨rfl, n, hng, hn1, hn5, hnb, rfl, hbl, hno⟩ := hrel
    clear HS
    have HB := Hid.mk' hbl
    have HO := Hid.mk' hno
    have hswr := hbl.size
    clear hbl hno
    by_cases hn4 : n ≤ 4
    · have hn4' : (n : Int) ≤ 4 := by omega
      obtain ⟨w2, hw2⟩ : ∃ w2, w2 = wr := ⟨_, rfl⟩
      subst hw2
      have HC3 := Hid.mk' (fill_cell w2)
      have HB3 : Hid (Below w.heap.size w (w2.alloc (.cells #[.string ⟨#[128]⟩, .string ⟨#[191]⟩, .string ⟨#[160, 128]⟩, .string ⟨#[144, 128, 128]⟩, .string ⟨#[159, 191]⟩, .string ⟨#[143, 191, 191]⟩, .string ⟨#[160, 191]⟩] 9))) := HB.out.alloc hswr _
      go_wp2_with fail
      generalize hw3 : w2.alloc (.cells #[.string ⟨#[128]⟩, .string ⟨#[191]⟩, .string ⟨#[160, 128]⟩, .string ⟨#[144, 128, 128]⟩, .string ⟨#[159, 191]⟩, .string ⟨#[143, 191, 191]⟩, .string ⟨#[160, 191]⟩] 9) = w3 at *
      have hs3 : w3.heap.size = w2.heap.size + 1 := by rw [← hw3]; simp
      clear hw3
      go_loopg [2, 20] 7 (fun g s2 s wq => IState L n w3 g s2 s wq)
      case atStart => exact ⟨rfl, 0, by omega, by omega, rfl, Below.refl _ _, fun j' h => by omega⟩
      case round =>
        obtain ⟨rfl, j, hgj, hj7, rfl, hbi, hnj⟩ := hrel
        have HI := Hid.mk' hbi
        have HN := Hid.mk' hnj
        have HBI : Hid (Below w.heap.size w wr) := HB3.out.trans (hbi.mono HB3.out.size)
        by_cases hj : j < 7
        · have hcell : wr.cell? ⟨w2.heap.size, j, none⟩ = some (.string ⟨(fill j).toArray⟩) := (hbi.cell (p := ⟨w2.heap.size, j, none⟩) (by simp; omega)).trans (HC3.out j hj)
          clear hbi hnj
          rcases fill_shape j hj with hsh | hsh | hsh
          · have hfs : (⟨(fill j).toArray⟩ : ByteArray).size = 1 := by rw [← hsh]; simp [ByteArray.size]
            obtain ⟨x, hx⟩ : ∃ x, (fill j).drop 0 = [x] := by
              have : ((fill j).drop 0).length = 1 := by rw [List.length_drop, hsh]
              match h : (fill j).drop 0, this with
              | [x], _ => exact ⟨x, rfl⟩
            have xl := rest_list (fill j) 0
            rw [hfs, hx] at xl
            have a1 := bytes_append L (fill j)
            have a2 := bytes_append (L ++ fill j) (repeatL [x] 4)
            have hcd : (L ++ fill j ++ repeatL [x] 4).take n = cand L (fill j) n := by unfold cand; rw [hsh]; simp only [Nat.reduceSub]; rw [hx]
            have xt := take_list (L ++ fill j ++ repeatL [x] 4) n
            rw [hcd] at xt
            have hst : (⟨(L ++ fill j ++ repeatL [x] 4).toArray⟩ : ByteArray).size = L.length + 1 + 4 := by simp [ByteArray.size, repeatL_length, hsh]
            have hsl : (⟨L.toArray⟩ : ByteArray).size = L.length := by simp [ByteArray.size]
            have hsa : (⟨(L ++ fill j).toArray⟩ : ByteArray).size = L.length + 1 := by simp [ByteArray.size, hsh]
            have hsr : (⟨(repeatL [x] 4).toArray⟩ : ByteArray).size = 4 := by simp [ByteArray.size, repeatL_length]
            have HRP := Hid.mk' (fun W => Tryd.strings_Repeat ⟨[x].toArray⟩ 4 W (by decide) (show 1 * 4 ≤ 140737488355328 by decide))
            have hrx : (⟨[x].toArray⟩ : ByteArray).data.toList = [x] := rfl
            rw [hrx] at HRP
            have HWH := Hid.mk' (fun W => Whole_any (cand L (fill j) n) W (by rw [cand_len L j n hj hn4]; omega))
            cases hw : whole (cand L (fill j) n) with
            | true =>
              rw [hw] at HWH
              have HBT := Hid.mk' (cand_beg L j n h0 hj hn1 hn4 hw)
              clear hw hcd hx hrx
              generalize (⟨(cand L (fill j) n).toArray⟩ : ByteArray) = SC at *
              generalize (⟨(L ++ fill j ++ repeatL [x] 4).toArray⟩ : ByteArray) = ST at *
              generalize (⟨(L ++ fill j).toArray⟩ : ByteArray) = SA at *
              generalize (⟨(repeatL [x] 4).toArray⟩ : ByteArray) = SR at *
              generalize (⟨[x].toArray⟩ : ByteArray) = SX at *
              generalize (⟨(fill j).toArray⟩ : ByteArray) = SF at *
              generalize (⟨L.toArray⟩ : ByteArray) = S at *
              go_wp2_with fail
              refine (HRP.out wr).mono ?_
              rintro e w4 ⟨rfl, hb4⟩
              have HB4 : Hid (Below w.heap.size w w4) := HBI.out.trans (hb4.mono HBI.out.size)
              clear hb4
              go_wp2_with fail
              refine (HWH.out w4).mono ?_
              rintro e w5 ⟨rfl, hb5⟩
              have HB5 : Hid (Below w.heap.size w w5) := HB4.out.trans (hb5.mono HB4.out.size)
              clear hb5
              go_wp2
              go_ret
              exact ⟨by rw [HBT.out] <;> rfl, HB5.out⟩
            | false =>
              rw [hw] at HWH
              have HN2 : Hid (∀ j', j' < j + 1 → whole (cand L (fill j') n) = false) := fun j' h => by
                rcases (by omega : j' < j ∨ j' = j) with h | rfl
                · exact HN.out j' h
                · exact hw
              clear hw hcd hx hrx
              generalize (⟨(cand L (fill j) n).toArray⟩ : ByteArray) = SC at *
              generalize (⟨(L ++ fill j ++ repeatL [x] 4).toArray⟩ : ByteArray) = ST at *
              generalize (⟨(L ++ fill j).toArray⟩ : ByteArray) = SA at *
              generalize (⟨(repeatL [x] 4).toArray⟩ : ByteArray) = SR at *
              generalize (⟨[x].toArray⟩ : ByteArray) = SX at *
              generalize (⟨(fill j).toArray⟩ : ByteArray) = SF at *
              generalize (⟨L.toArray⟩ : ByteArray) = S at *
              go_wp2_with fail
              refine (HRP.out wr).mono ?_
              rintro e w4 ⟨rfl, hb4⟩
              have HI4 : Hid (Below w3.heap.size w3 w4) := HI.out.trans (hb4.mono HI.out.size)
              clear hb4
              go_wp2_with fail
              refine (HWH.out w4).mono ?_
              rintro e w5 ⟨rfl, hb5⟩
              have HI5 : Hid (Below w3.heap.size w3 w5) := HI4.out.trans (hb5.mono HI4.out.size)
              clear hb5
              go_wp2
              go_roundg (7 - (j + 1))
              case measure => omega
              case rel => exact ⟨rfl, j + 1, by omega, by omega, by go_num, HI5.out, HN2.out⟩
          · have hfs : (⟨(fill j).toArray⟩ : ByteArray).size = 2 := by rw [← hsh]; simp [ByteArray.size]
            obtain ⟨x, hx⟩ : ∃ x, (fill j).drop 1 = [x] := by
              have : ((fill j).drop 1).length = 1 := by rw [List.length_drop, hsh]
              match h : (fill j).drop 1, this with
              | [x], _ => exact ⟨x, rfl⟩
            have xl := rest_list (fill j) 1
            rw [hfs, hx] at xl
            have a1 := bytes_append L (fill j)
            have a2 := bytes_append (L ++ fill j) (repeatL [x] 4)
            have hcd : (L ++ fill j ++ repeatL [x] 4).take n = cand L (fill j) n := by unfold cand; rw [hsh]; simp only [Nat.reduceSub]; rw [hx]
            have xt := take_list (L ++ fill j ++ repeatL [x] 4) n
            rw [hcd] at xt
            have hst : (⟨(L ++ fill j ++ repeatL [x] 4).toArray⟩ : ByteArray).size = L.length + 2 + 4 := by simp [ByteArray.size, repeatL_length, hsh]
            have hsl : (⟨L.toArray⟩ : ByteArray).size = L.length := by simp [ByteArray.size]
            have hsa : (⟨(L ++ fill j).toArray⟩ : ByteArray).size = L.length + 2 := by simp [ByteArray.size, hsh]
            have hsr : (⟨(repeatL [x] 4).toArray⟩ : ByteArray).size = 4 := by simp [ByteArray.size, repeatL_length]
            have HRP := Hid.mk' (fun W => Tryd.strings_Repeat ⟨[x].toArray⟩ 4 W (by decide) (show 1 * 4 ≤ 140737488355328 by decide))
            have hrx : (⟨[x].toArray⟩ : ByteArray).data.toList = [x] := rfl
            rw [hrx] at HRP
            have HWH := Hid.mk' (fun W => Whole_any (cand L (fill j) n) W (by rw [cand_len L j n hj hn4]; omega))
            cases hw : whole (cand L (fill j) n) with
            | true =>
              rw [hw] at HWH
              have HBT := Hid.mk' (cand_beg L j n h0 hj hn1 hn4 hw)
              clear hw hcd hx hrx
              generalize (⟨(cand L (fill j) n).toArray⟩ : ByteArray) = SC at *
              generalize (⟨(L ++ fill j ++ repeatL [x] 4).toArray⟩ : ByteArray) = ST at *
              generalize (⟨(L ++ fill j).toArray⟩ : ByteArray) = SA at *
              generalize (⟨(repeatL [x] 4).toArray⟩ : ByteArray) = SR at *
              generalize (⟨[x].toArray⟩ : ByteArray) = SX at *
              generalize (⟨(fill j).toArray⟩ : ByteArray) = SF at *
              generalize (⟨L.toArray⟩ : ByteArray) = S at *
              go_wp2_with fail
              refine (HRP.out wr).mono ?_
              rintro e w4 ⟨rfl, hb4⟩
              have HB4 : Hid (Below w.heap.size w w4) := HBI.out.trans (hb4.mono HBI.out.size)
              clear hb4
              go_wp2_with fail
              refine (HWH.out w4).mono ?_
              rintro e w5 ⟨rfl, hb5⟩
              have HB5 : Hid (Below w.heap.size w w5) := HB4.out.trans (hb5.mono HB4.out.size)
              clear hb5
              go_wp2
              go_ret
              exact ⟨by rw [HBT.out] <;> rfl, HB5.out⟩
            | false =>
              rw [hw] at HWH
              have HN2 : Hid (∀ j', j' < j + 1 → whole (cand L (fill j') n) = false) := fun j' h => by
                rcases (by omega : j' < j ∨ j' = j) with h | rfl
                · exact HN.out j' h
                · exact hw
              clear hw hcd hx hrx
              generalize (⟨(cand L (fill j) n).toArray⟩ : ByteArray) = SC at *
              generalize (⟨(L ++ fill j ++ repeatL [x] 4).toArray⟩ : ByteArray) = ST at *
              generalize (⟨(L ++ fill j).toArray⟩ : ByteArray) = SA at *
              generalize (⟨(repeatL [x] 4).toArray⟩ : ByteArray) = SR at *
              generalize (⟨[x].toArray⟩ : ByteArray) = SX at *
              generalize (⟨(fill j).toArray⟩ : ByteArray) = SF at *
              generalize (⟨L.toArray⟩ : ByteArray) = S at *
              go_wp2_with fail
              refine (HRP.out wr).mono ?_
              rintro e w4 ⟨rfl, hb4⟩
              have HI4 : Hid (Below w3.heap.size w3 w4) := HI.out.trans (hb4.mono HI.out.size)
              clear hb4
              go_wp2_with fail
              refine (HWH.out w4).mono ?_
              rintro e w5 ⟨rfl, hb5⟩
              have HI5 : Hid (Below w3.heap.size w3 w5) := HI4.out.trans (hb5.mono HI4.out.size)
              clear hb5
              go_wp2
              go_roundg (7 - (j + 1))
              case measure => omega
              case rel => exact ⟨rfl, j + 1, by omega, by omega, by go_num, HI5.out, HN2.out⟩
          · have hfs : (⟨(fill j).toArray⟩ : ByteArray).size = 3 := by rw [← hsh]; simp [ByteArray.size]
            obtain ⟨x, hx⟩ : ∃ x, (fill j).drop 2 = [x] := by
              have : ((fill j).drop 2).length = 1 := by rw [List.length_drop, hsh]
              match h : (fill j).drop 2, this with
              | [x], _ => exact ⟨x, rfl⟩
            have xl := rest_list (fill j) 2
            rw [hfs, hx] at xl
            have a1 := bytes_append L (fill j)
            have a2 := bytes_append (L ++ fill j) (repeatL [x] 4)
            have hcd : (L ++ fill j ++ repeatL [x] 4).take n = cand L (fill j) n := by unfold cand; rw [hsh]; simp only [Nat.reduceSub]; rw [hx]
            have xt := take_list (L ++ fill j ++ repeatL [x] 4) n
            rw [hcd] at xt
            have hst : (⟨(L ++ fill j ++ repeatL [x] 4).toArray⟩ : ByteArray).size = L.length + 3 + 4 := by simp [ByteArray.size, repeatL_length, hsh]
            have hsl : (⟨L.toArray⟩ : ByteArray).size = L.length := by simp [ByteArray.size]
            have hsa : (⟨(L ++ fill j).toArray⟩ : ByteArray).size = L.length + 3 := by simp [ByteArray.size, hsh]
            have hsr : (⟨(repeatL [x] 4).toArray⟩ : ByteArray).size = 4 := by simp [ByteArray.size, repeatL_length]
            have HRP := Hid.mk' (fun W => Tryd.strings_Repeat ⟨[x].toArray⟩ 4 W (by decide) (show 1 * 4 ≤ 140737488355328 by decide))
            have hrx : (⟨[x].toArray⟩ : ByteArray).data.toList = [x] := rfl
            rw [hrx] at HRP
            have HWH := Hid.mk' (fun W => Whole_any (cand L (fill j) n) W (by rw [cand_len L j n hj hn4]; omega))
            cases hw : whole (cand L (fill j) n) with
            | true =>
              rw [hw] at HWH
              have HBT := Hid.mk' (cand_beg L j n h0 hj hn1 hn4 hw)
              clear hw hcd hx hrx
              generalize (⟨(cand L (fill j) n).toArray⟩ : ByteArray) = SC at *
              generalize (⟨(L ++ fill j ++ repeatL [x] 4).toArray⟩ : ByteArray) = ST at *
              generalize (⟨(L ++ fill j).toArray⟩ : ByteArray) = SA at *
              generalize (⟨(repeatL [x] 4).toArray⟩ : ByteArray) = SR at *
              generalize (⟨[x].toArray⟩ : ByteArray) = SX at *
              generalize (⟨(fill j).toArray⟩ : ByteArray) = SF at *
              generalize (⟨L.toArray⟩ : ByteArray) = S at *
              go_wp2_with fail
              refine (HRP.out wr).mono ?_
              rintro e w4 ⟨rfl, hb4⟩
              have HB4 : Hid (Below w.heap.size w w4) := HBI.out.trans (hb4.mono HBI.out.size)
              clear hb4
              go_wp2_with fail
              refine (HWH.out w4).mono ?_
              rintro e w5 ⟨rfl, hb5⟩
              have HB5 : Hid (Below w.heap.size w w5) := HB4.out.trans (hb5.mono HB4.out.size)
              clear hb5
              go_wp2
              go_ret
              exact ⟨by rw [HBT.out] <;> rfl, HB5.out⟩
            | false =>
              rw [hw] at HWH
              have HN2 : Hid (∀ j', j' < j + 1 → whole (cand L (fill j') n) = false) := fun j' h => by
                rcases (by omega : j' < j ∨ j' = j) with h | rfl
                · exact HN.out j' h
                · exact hw
              clear hw hcd hx hrx
              generalize (⟨(cand L (fill j) n).toArray⟩ : ByteArray) = SC at *
              generalize (⟨(L ++ fill j ++ repeatL [x] 4).toArray⟩ : ByteArray) = ST at *
              generalize (⟨(L ++ fill j).toArray⟩ : ByteArray) = SA at *
              generalize (⟨(repeatL [x] 4).toArray⟩ : ByteArray) = SR at *
              generalize (⟨[x].toArray⟩ : ByteArray) = SX at *
              generalize (⟨(fill j).toArray⟩ : ByteArray) = SF at *
              generalize (⟨L.toArray⟩ : ByteArray) = S at *
              go_wp2_with fail
              refine (HRP.out wr).mono ?_
              rintro e w4 ⟨rfl, hb4⟩
              have HI4 : Hid (Below w3.heap.size w3 w4) := HI.out.trans (hb4.mono HI.out.size)
              clear hb4
              go_wp2_with fail
              refine (HWH.out w4).mono ?_
              rintro e w5 ⟨rfl, hb5⟩
              have HI5 : Hid (Below w3.heap.size w3 w5) := HI4.out.trans (hb5.mono HI4.out.size)
              clear hb5
              go_wp2
              go_roundg (7 - (j + 1))
              case measure => omega
              case rel => exact ⟨rfl, j + 1, by omega, by omega, by go_num, HI5.out, HN2.out⟩
        · obtain rfl : j = 7 := by omega
          have HO2 : Hid (∀ n' j, L.length < n' → n' < n + 1 → j < 7 → whole (cand L (fill j) n') = false) := fun n' j h1 h2 h3 => by
            rcases (by omega : n' < n ∨ n' = n) with h | rfl
            · exact HO.out n' j h1 h h3
            · exact HN.out j h3
          clear hbi hnj
          go_wp2
          go_roundg (5 - (n + 1))
          case measure => omega
          case rel => exact ⟨rfl, n + 1, by omega, by omega, by omega, by omega, by go_num, HBI.out, HO2.out⟩
    · have hn4' : ¬ (n : Int) ≤ 4 := by omega
      have HBF := Hid.mk' (HNO.out fun n' j h1 h2 h3 => HO.out n' j h1 (by omega) h3)
      go_wp2
      go_ret
      exact ⟨by rw [HBF.out] <;> rfl, HB.out⟩

set_option maxHeartbeats 4000000 in
theorem Beginning_none (w : World) : Calls Tryd.prog 42 #[.string ⟨#[]⟩] w fun e w' => e = .returned (.bool false) ∧ Below w.heap.size w w' := by
  go_enter Tryd.func42, Tryd.ntmps42
  go_wp2_with fail
  go_loopg [2, 3] 0 (fun _ s2 s wr => s2 = .bool false ∧ s = .int .i64 1 ∧ wr = w)
  case atStart => exact ⟨rfl, rfl, rfl⟩
  case round =>
    obtain ⟨rfl, rfl, hw⟩ := hrel
    subst hw
    go_wp2
    go_ret
    exact ⟨rfl, Below.refl _ _⟩

theorem Beginning_any (L : List UInt8) (w : World) (hl : L.length ≤ 1073741824) :
    Calls Tryd.prog 42 #[.string ⟨L.toArray⟩] w fun e w' => e = .returned (.bool (beg L)) ∧ Below w.heap.size w w' := by
  by_cases h : L = []
  · subst h; exact Beginning_none w
  · exact Beginning_some L w h hl

set_option maxHeartbeats 4000000 in
theorem PartRight_any (L : List UInt8) (w : World) (hl : L.length ≤ 1073741824) :
    Calls Tryd.prog 18 #[.string ⟨L.toArray⟩] w fun e w' => e = .returned (.int .i64 (if L = [] ∨ beg L = true then 0 else 4)) ∧ Below w.heap.size w w' := by
  have HF := Beginning_any L w hl
  by_cases h : L = []
  · subst h
    go_enter Tryd.func18, Tryd.ntmps18
    go_wp2
    go_ret
    exact ⟨rfl, Below.refl _ _⟩
  have h3 := str_empty h
  cases hb : beg L with
  | true =>
    rw [hb] at HF
    rw [if_pos (.inr rfl)]
    generalize (⟨L.toArray⟩ : ByteArray) = S at *
    go_enter Tryd.func18, Tryd.ntmps18
    go_wp2_with fail
    refine HF.mono ?_
    rintro e w1 ⟨rfl, hb1⟩
    go_wp2
    go_ret
    exact ⟨rfl, hb1⟩
  | false =>
    rw [hb] at HF
    rw [if_neg (by simp [h])]
    generalize (⟨L.toArray⟩ : ByteArray) = S at *
    go_enter Tryd.func18, Tryd.ntmps18
    go_wp2_with fail
    refine HF.mono ?_
    rintro e w1 ⟨rfl, hb1⟩
    go_wp2
    go_ret
    exact ⟨rfl, hb1⟩
end Go.Proofs.YtjnopjjbndknfaaDoor.U
