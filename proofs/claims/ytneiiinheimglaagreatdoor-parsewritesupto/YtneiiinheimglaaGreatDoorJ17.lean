/-
  Plain laws: what may stand behind a beginning, by seven fillings; no condition.
  Contract of farref.Beginning and farref.PartRight: whether a string is a beginning; conditions: at most 1073741824 bytes.
-/
import Derived.Test.YtneiiinheimglaaGreatDoorJ19
import Derived.Lib.Repeat
import Derived.Test.YtneiiinheimglaaGreatDoorURef
import Derived.Test.YtneiiinheimglaaGreatDoorUShelf3
namespace Go.Proofs.YtneiiinheimglaaGreatDoor.U
open Go.Lib

def fills : List (List UInt8) := [[128], [191], [160, 128], [144, 128, 128], [159, 191], [143, 191, 191], [160, 191]]
def fill (j : Nat) : List UInt8 := fills.getD j []
def cand (L f : List UInt8) (n : Nat) : List UInt8 := (L ++ f ++ repeatL (f.drop (f.length - 1)) 4).take n

theorem fill_shape (j : Nat) (h : j < 7) : (fill j).length = 1 ∨ (fill j).length = 2 ∨ (fill j).length = 3 := by
  rcases (by omega : j = 0 ∨ j = 1 ∨ j = 2 ∨ j = 3 ∨ j = 4 ∨ j = 5 ∨ j = 6) with rfl | rfl | rfl | rfl | rfl | rfl | rfl <;> decide

theorem cand_len (L : List UInt8) (j n : Nat) (hj : j < 7) (hn : n ≤ 4) : (cand L (fill j) n).length = n := by
  have := fill_shape j hj
  unfold cand
  rw [List.length_take, List.length_append, List.length_append, repeatL_length, List.length_drop]
  omega

theorem cand_beg (L : List UInt8) (j n : Nat) (h0 : L ≠ []) (hj : j < 7) (hn : L.length < n) (hn4 : n ≤ 4) (h : whole (cand L (fill j) n) = true) : beg L = true := by
  have hl := cand_len L j n hj hn4
  have e : cand L (fill j) n = L ++ (fill j ++ repeatL ((fill j).drop ((fill j).length - 1)) 4).take (n - L.length) := by
    unfold cand
    rw [List.append_assoc, List.take_append, List.take_of_length_le (by omega)]
  rw [e] at h hl
  refine beg_of_whole L _ h0 (fun e2 => ?_) h
  rw [e2, List.append_nil] at hl
  omega

theorem beg_cand (L : List UInt8) (h : beg L = true) : ∃ n j, L.length < n ∧ n ≤ 4 ∧ j < 7 ∧ whole (cand L (fill j) n) = true := by
  match L, h with
  | [a], h =>
    simp only [beg, decide_eq_true_eq] at h
    have hz := sz_cases a.toNat
    by_cases h2 : sz a.toNat = 2
    · refine ⟨2, 0, by simp, by omega, by omega, ?_⟩
      have e : cand [a] (fill 0) 2 = [a, 128] := rfl
      have hr := sz_two h2
      rw [e, whole_more (by simp)]
      have e0 : nth [a, 128] 0 = a.toNat := rfl
      have e1 : nth [a, 128] 1 = 128 := rfl
      rw [e0, e1]
      unfold lo hi
      rw [if_neg (by omega), if_neg (by omega), if_neg (by omega), if_neg (by omega)]
      simp [h2]
    by_cases h3 : sz a.toNat = 3
    · have hr := sz_three h3
      by_cases ha : a.toNat = 224
      · refine ⟨3, 2, by simp, by omega, by omega, ?_⟩
        have e : cand [a] (fill 2) 3 = [a, 160, 128] := rfl
        rw [e, whole_more (by simp)]
        have e0 : nth [a, 160, 128] 0 = a.toNat := rfl
        have e1 : nth [a, 160, 128] 1 = 160 := rfl
        have e2 : nth [a, 160, 128] 2 = 128 := rfl
        rw [e0, e1, e2]
        unfold lo hi
        rw [if_pos (by omega), if_neg (by omega), if_neg (by omega)]
        simp [h3]
      · refine ⟨3, 0, by simp, by omega, by omega, ?_⟩
        have e : cand [a] (fill 0) 3 = [a, 128, 128] := rfl
        rw [e, whole_more (by simp)]
        have e0 : nth [a, 128, 128] 0 = a.toNat := rfl
        have e1 : nth [a, 128, 128] 1 = 128 := rfl
        have e2 : nth [a, 128, 128] 2 = 128 := rfl
        rw [e0, e1, e2]
        have hlo : lo a.toNat = 128 := by unfold lo; rw [if_neg ha, if_neg (by omega)]
        have hhi : 128 ≤ hi a.toNat := by unfold hi; (repeat' split) <;> omega
        simp [h3, hlo, hhi]
    · have h4 : sz a.toNat = 4 := by omega
      have hr := sz_four h4
      by_cases ha : a.toNat = 240
      · refine ⟨4, 3, by simp, by omega, by omega, ?_⟩
        have e : cand [a] (fill 3) 4 = [a, 144, 128, 128] := rfl
        rw [e, whole_more (by simp)]
        have e0 : nth [a, 144, 128, 128] 0 = a.toNat := rfl
        have e1 : nth [a, 144, 128, 128] 1 = 144 := rfl
        have e2 : nth [a, 144, 128, 128] 2 = 128 := rfl
        have e3 : nth [a, 144, 128, 128] 3 = 128 := rfl
        rw [e0, e1, e2, e3]
        unfold lo hi
        rw [if_neg (by omega), if_pos (by omega), if_neg (by omega), if_neg (by omega)]
        simp [h4]
      · refine ⟨4, 0, by simp, by omega, by omega, ?_⟩
        have e : cand [a] (fill 0) 4 = [a, 128, 128, 128] := rfl
        rw [e, whole_more (by simp)]
        have e0 : nth [a, 128, 128, 128] 0 = a.toNat := rfl
        have e1 : nth [a, 128, 128, 128] 1 = 128 := rfl
        have e2 : nth [a, 128, 128, 128] 2 = 128 := rfl
        have e3 : nth [a, 128, 128, 128] 3 = 128 := rfl
        rw [e0, e1, e2, e3]
        have hlo : lo a.toNat = 128 := by unfold lo; rw [if_neg (by omega), if_neg ha]
        have hhi : 128 ≤ hi a.toNat := by unfold hi; (repeat' split) <;> omega
        simp [h4, hlo, hhi]
  | [a, b], h =>
    simp only [beg, decide_eq_true_eq] at h
    by_cases h3 : sz a.toNat = 3
    · refine ⟨3, 0, by simp, by omega, by omega, ?_⟩
      have e : cand [a, b] (fill 0) 3 = [a, b, 128] := rfl
      rw [e, whole_more (by simp)]
      have e0 : nth [a, b, 128] 0 = a.toNat := rfl
      have e1 : nth [a, b, 128] 1 = b.toNat := rfl
      have e2 : nth [a, b, 128] 2 = 128 := rfl
      rw [e0, e1, e2]
      simp [h3, h.2.1, h.2.2]
    · have h4 : sz a.toNat = 4 := by have := sz_cases a.toNat; omega
      refine ⟨4, 0, by simp, by omega, by omega, ?_⟩
      have e : cand [a, b] (fill 0) 4 = [a, b, 128, 128] := rfl
      rw [e, whole_more (by simp)]
      have e0 : nth [a, b, 128, 128] 0 = a.toNat := rfl
      have e1 : nth [a, b, 128, 128] 1 = b.toNat := rfl
      have e2 : nth [a, b, 128, 128] 2 = 128 := rfl
      have e3 : nth [a, b, 128, 128] 3 = 128 := rfl
      rw [e0, e1, e2, e3]
      simp [h4, h.2.1, h.2.2]
  | [a, b, c], h =>
    simp only [beg, decide_eq_true_eq] at h
    have h4 : sz a.toNat = 4 := by have := sz_cases a.toNat; omega
    refine ⟨4, 0, by simp, by omega, by omega, ?_⟩
    have e : cand [a, b, c] (fill 0) 4 = [a, b, c, 128] := rfl
    rw [e, whole_more (by simp)]
    have e0 : nth [a, b, c, 128] 0 = a.toNat := rfl
    have e1 : nth [a, b, c, 128] 1 = b.toNat := rfl
    have e2 : nth [a, b, c, 128] 2 = c.toNat := rfl
    have e3 : nth [a, b, c, 128] 3 = 128 := rfl
    rw [e0, e1, e2, e3]
    simp [h4, h.2.1, h.2.2.1, h.2.2.2.1, h.2.2.2.2]

end Go.Proofs.YtneiiinheimglaaGreatDoor.U
namespace Go.Proofs.YtneiiinheimglaaGreatDoor.U
open Go.RowKit Go.Lib Go.Proofs.YtneiiinheimglaaGreatDoor

def fillBlock : Obj := .cells #[.string ⟨#[128]⟩, .string ⟨#[191]⟩, .string ⟨#[160, 128]⟩, .string ⟨#[144, 128, 128]⟩, .string ⟨#[159, 191]⟩, .string ⟨#[143, 191, 191]⟩, .string ⟨#[160, 191]⟩] 9
theorem fill_cell (w : World) (j : Nat) (hj : j < 7) : (w.alloc (.cells #[.string ⟨#[128]⟩, .string ⟨#[191]⟩, .string ⟨#[160, 128]⟩, .string ⟨#[144, 128, 128]⟩, .string ⟨#[159, 191]⟩, .string ⟨#[143, 191, 191]⟩, .string ⟨#[160, 191]⟩] 9)).cell? ⟨w.heap.size, j, none⟩ = some (.string ⟨(fill j).toArray⟩) := by
  rw [cell_of_row _ _ _ _ _ _ (MapKept.heap_alloc w _).1]
  rcases (by omega : j = 0 ∨ j = 1 ∨ j = 2 ∨ j = 3 ∨ j = 4 ∨ j = 5 ∨ j = 6) with rfl | rfl | rfl | rfl | rfl | rfl | rfl <;> rfl

def OState (L : List UInt8) (w : World) (g : Nat) (s2 s : Value) (wr : World) : Prop :=
  s2 = .bool false ∧ ∃ n : Nat, 5 - n ≤ g ∧ L.length < n ∧ (L.length ≤ 4 → n ≤ 5) ∧ (4 < L.length → n = L.length + 1) ∧ s = .int .i64 (n : Int) ∧ Below w.heap.size w wr ∧ ∀ n' j, L.length < n' → n' < n → j < 7 → whole (cand L (fill j) n') = false
def IState (L : List UInt8) (n : Nat) (w : World) (g : Nat) (s2 s : Value) (wr : World) : Prop :=
  s2 = .bool false ∧ ∃ j : Nat, 7 - j ≤ g ∧ j ≤ 7 ∧ s = .int .i64 (j : Int) ∧ Below w.heap.size w wr ∧ ∀ j', j' < j → whole (cand L (fill j') n) = false

set_option maxHeartbeats 8000000 in
set_option maxRecDepth 100000 in
theorem Beginning_some (L : List UInt8) (w : World) (h0 : L ≠ []) (hl : L.length ≤ 1073741824) :
    Calls Tryz.prog 29 #[.string ⟨L.toArray⟩] w fun e w' => e = .returned (.bool (beg L)) ∧ Below w.heap.size w w' := by
  have hsz : (⟨L.toArray⟩ : ByteArray).size = L.length := by simp [ByteArray.size]
  have he := str_empty h0
  have hLe : L.isEmpty = false := by
    cases L with
    | nil => exact absurd rfl h0
    | cons a t => rfl
  have HS : Hid (OState L w 5 (.bool false) (.int .i64 ((L.length : Int) + 1)) w) := ⟨rfl, L.length + 1, by omega, by omega, by omega, by omega, by simp, Below.refl _ _, fun n' j h1 h2 => by omega⟩
  have HNO : Hid ((∀ n' j, L.length < n' → n' ≤ 4 → j < 7 → whole (cand L (fill j) n') = false) → beg L = false) := fun h => by
    cases hb : beg L with
    | false => rfl
    | true =>
      obtain ⟨n, j, h1, h2, h3, h4⟩ := beg_cand L hb
      rw [h n j h1 h2 h3] at h4; cases h4
  go_enter Tryz.func29, Tryz.ntmps29
  go_wp2_with fail
  go_loopg [2, 3] 5 (fun g s2 s wr => OState L w g s2 s wr)
  case atStart => exact HS.out
  case round =>
    obtain ⟨rfl, n, hng, hn1, hn5, hnb, rfl, hbl, hno⟩ := hrel
    clear HS
    have HB := Hid.mk' hbl
    have HO := Hid.mk' hno
    have hswr := hbl.size
    clear hbl hno
    by_cases hn4 : n ≤ 4
    · have hn4' : (n : Int) ≤ 4 := by omega
      obtain ⟨w2, hw2⟩ : ∃ w2, w2 = wr := ⟨_, rfl⟩
      subst hw2
      have HC3 := Hid.mk' (fill_cell w2)
      have HB3 : Hid (Below w.heap.size w (w2.alloc (.cells #[.string ⟨#[128]⟩, .string ⟨#[191]⟩, .string ⟨#[160, 128]⟩, .string ⟨#[144, 128, 128]⟩, .string ⟨#[159, 191]⟩, .string ⟨#[143, 191, 191]⟩, .string ⟨#[160, 191]⟩] 9))) := HB.out.alloc hswr _
      go_wp2_with fail
      generalize hw3 : w2.alloc (.cells #[.string ⟨#[128]⟩, .string ⟨#[191]⟩, .string ⟨#[160, 128]⟩, .string ⟨#[144, 128, 128]⟩, .string ⟨#[159, 191]⟩, .string ⟨#[143, 191, 191]⟩, .string ⟨#[160, 191]⟩] 9) = w3 at *
      have hs3 : w3.heap.size = w2.heap.size + 1 := by rw [← hw3]; simp
      clear hw3
      go_loopg [2, 20] 7 (fun g s2 s wq => IState L n w3 g s2 s wq)
      case atStart => exact ⟨rfl, 0, by omega, by omega, rfl, Below.refl _ _, fun j' h => by omega⟩
      case round =>
        obtain ⟨rfl, j, hgj, hj7, rfl, hbi, hnj⟩ := hrel
        have HI := Hid.mk' hbi
        have HN := Hid.mk' hnj
        have HBI : Hid (Below w.heap.size w wr) := HB3.out.trans (hbi.mono HB3.out.size)
        by_cases hj : j < 7
        · have hcell : wr.cell? ⟨w2.heap.size, j, none⟩ = some (.string ⟨(fill j).toArray⟩) := (hbi.cell (p := ⟨w2.heap.size, j, none⟩) (by simp; omega)).trans (HC3.out j hj)
          clear hbi hnj
          rcases fill_shape j hj with hsh | hsh | hsh
          · have hfs : (⟨(fill j).toArray⟩ : ByteArray).size = 1 := by rw [← hsh]; simp [ByteArray.size]
            obtain ⟨x, hx⟩ : ∃ x, (fill j).drop 0 = [x] := by
              have : ((fill j).drop 0).length = 1 := by rw [List.length_drop, hsh]
              match h : (fill j).drop 0, this with
              | [x], _ => exact ⟨x, rfl⟩
            have xl := rest_list (fill j) 0
            rw [hfs, hx] at xl
            have a1 := bytes_append L (fill j)
            have a2 := bytes_append (L ++ fill j) (repeatL [x] 4)
            have hcd : (L ++ fill j ++ repeatL [x] 4).take n = cand L (fill j) n := by unfold cand; rw [hsh]; simp only [Nat.reduceSub]; rw [hx]
            have xt := take_list (L ++ fill j ++ repeatL [x] 4) n
            rw [hcd] at xt
            have hst : (⟨(L ++ fill j ++ repeatL [x] 4).toArray⟩ : ByteArray).size = L.length + 1 + 4 := by simp [ByteArray.size, repeatL_length, hsh]
            have hsl : (⟨L.toArray⟩ : ByteArray).size = L.length := by simp [ByteArray.size]
            have hsa : (⟨(L ++ fill j).toArray⟩ : ByteArray).size = L.length + 1 := by simp [ByteArray.size, hsh]
            have hsr : (⟨(repeatL [x] 4).toArray⟩ : ByteArray).size = 4 := by simp [ByteArray.size, repeatL_length]
            have HRP := Hid.mk' (fun W => Tryz.strings_Repeat ⟨[x].toArray⟩ 4 W (by decide) (show 1 * 4 ≤ 140737488355328 by decide))
            have hrx : (⟨[x].toArray⟩ : ByteArray).data.toList = [x] := rfl
            rw [hrx] at HRP
            have HWH := Hid.mk' (fun W => Whole_any (cand L (fill j) n) W (by rw [cand_len L j n hj hn4]; omega))
            cases hw : whole (cand L (fill j) n) with
            | true =>
              rw [hw] at HWH
              have HBT := Hid.mk' (cand_beg L j n h0 hj hn1 hn4 hw)
              clear hw hcd hx hrx
              generalize (⟨(cand L (fill j) n).toArray⟩ : ByteArray) = SC at *
              generalize (⟨(L ++ fill j ++ repeatL [x] 4).toArray⟩ : ByteArray) = ST at *
              generalize (⟨(L ++ fill j).toArray⟩ : ByteArray) = SA at *
              generalize (⟨(repeatL [x] 4).toArray⟩ : ByteArray) = SR at *
              generalize (⟨[x].toArray⟩ : ByteArray) = SX at *
              generalize (⟨(fill j).toArray⟩ : ByteArray) = SF at *
              generalize (⟨L.toArray⟩ : ByteArray) = S at *
              go_wp2_with fail
              refine (HRP.out wr).mono ?_
              rintro e w4 ⟨rfl, hb4⟩
              have HB4 : Hid (Below w.heap.size w w4) := HBI.out.trans (hb4.mono HBI.out.size)
              clear hb4
              go_wp2_with fail
              refine (HWH.out w4).mono ?_
              rintro e w5 ⟨rfl, hb5⟩
              have HB5 : Hid (Below w.heap.size w w5) := HB4.out.trans (hb5.mono HB4.out.size)
              clear hb5
              go_wp2
              go_ret
              exact ⟨by rw [HBT.out] <;> rfl, HB5.out⟩
            | false =>
              rw [hw] at HWH
              have HN2 : Hid (∀ j', j' < j + 1 → whole (cand L (fill j') n) = false) := fun j' h => by
                rcases (by omega : j' < j ∨ j' = j) with h | rfl
                · exact HN.out j' h
                · exact hw
              clear hw hcd hx hrx
              generalize (⟨(cand L (fill j) n).toArray⟩ : ByteArray) = SC at *
              generalize (⟨(L ++ fill j ++ repeatL [x] 4).toArray⟩ : ByteArray) = ST at *
              generalize (⟨(L ++ fill j).toArray⟩ : ByteArray) = SA at *
              generalize (⟨(repeatL [x] 4).toArray⟩ : ByteArray) = SR at *
              generalize (⟨[x].toArray⟩ : ByteArray) = SX at *
              generalize (⟨(fill j).toArray⟩ : ByteArray) = SF at *
              generalize (⟨L.toArray⟩ : ByteArray) = S at *
              go_wp2_with fail
              refine (HRP.out wr).mono ?_
              rintro e w4 ⟨rfl, hb4⟩
              have HI4 : Hid (Below w3.heap.size w3 w4) := HI.out.trans (hb4.mono HI.out.size)
              clear hb4
              go_wp2_with fail
              refine (HWH.out w4).mono ?_
              rintro e w5 ⟨rfl, hb5⟩
              have HI5 : Hid (Below w3.heap.size w3 w5) := HI4.out.trans (hb5.mono HI4.out.size)
              clear hb5
              go_wp2
              go_roundg (7 - (j + 1))
              case measure => omega
              case rel => exact ⟨rfl, j + 1, by omega, by omega, by go_num, HI5.out, HN2.out⟩
          · have hfs : (⟨(fill j).toArray⟩ : ByteArray).size = 2 := by rw [← hsh]; simp [ByteArray.size]
            obtain ⟨x, hx⟩ : ∃ x, (fill j).drop 1 = [x] := by
              have : ((fill j).drop 1).length = 1 := by rw [List.length_drop, hsh]
              match h : (fill j).drop 1, this with
              | [x], _ => exact ⟨x, rfl⟩
            have xl := rest_list (fill j) 1
            rw [hfs, hx] at xl
            have a1 := bytes_append L (fill j)
            have a2 := bytes_append (L ++ fill j) (repeatL [x] 4)
            have hcd : (L ++ fill j ++ repeatL [x] 4).take n = cand L (fill j) n := by unfold cand; rw [hsh]; simp only [Nat.reduceSub]; rw [hx]
            have xt := take_list (L ++ fill j ++ repeatL [x] 4) n
            rw [hcd] at xt
            have hst : (⟨(L ++ fill j ++ repeatL [x] 4).toArray⟩ : ByteArray).size = L.length + 2 + 4 := by simp [ByteArray.size, repeatL_length, hsh]
            have hsl : (⟨L.toArray⟩ : ByteArray).size = L.length := by simp [ByteArray.size]
            have hsa : (⟨(L ++ fill j).toArray⟩ : ByteArray).size = L.length + 2 := by simp [ByteArray.size, hsh]
            have hsr : (⟨(repeatL [x] 4).toArray⟩ : ByteArray).size = 4 := by simp [ByteArray.size, repeatL_length]
            have HRP := Hid.mk' (fun W => Tryz.strings_Repeat ⟨[x].toArray⟩ 4 W (by decide) (show 1 * 4 ≤ 140737488355328 by decide))
            have hrx : (⟨[x].toArray⟩ : ByteArray).data.toList = [x] := rfl
            rw [hrx] at HRP
            have HWH := Hid.mk' (fun W => Whole_any (cand L (fill j) n) W (by rw [cand_len L j n hj hn4]; omega))
            cases hw : whole (cand L (fill j) n) with
            | true =>
              rw [hw] at HWH
              have HBT := Hid.mk' (cand_beg L j n h0 hj hn1 hn4 hw)
              clear hw hcd hx hrx
              generalize (⟨(cand L (fill j) n).toArray⟩ : ByteArray) = SC at *
              generalize (⟨(L ++ fill j ++ repeatL [x] 4).toArray⟩ : ByteArray) = ST at *
              generalize (⟨(L ++ fill j).toArray⟩ : ByteArray) = SA at *
              generalize (⟨(repeatL [x] 4).toArray⟩ : ByteArray) = SR at *
              generalize (⟨[x].toArray⟩ : ByteArray) = SX at *
              generalize (⟨(fill j).toArray⟩ : ByteArray) = SF at *
              generalize (⟨L.toArray⟩ : ByteArray) = S at *
              go_wp2_with fail
              refine (HRP.out wr).mono ?_
              rintro e w4 ⟨rfl, hb4⟩
              have HB4 : Hid (Below w.heap.size w w4) := HBI.out.trans (hb4.mono HBI.out.size)
              clear hb4
              go_wp2_with fail
              refine (HWH.out w4).mono ?_
              rintro e w5 ⟨rfl, hb5⟩
              have HB5 : Hid (Below w.heap.size w w5) := HB4.out.trans (hb5.mono HB4.out.size)
              clear hb5
              go_wp2
              go_ret
              exact ⟨by rw [HBT.out] <;> rfl, HB5.out⟩
            | false =>
              rw [hw] at HWH
              have HN2 : Hid (∀ j', j' < j + 1 → whole (cand L (fill j') n) = false) := fun j' h => by
                rcases (by omega : j' < j ∨ j' = j) with h | rfl
                · exact HN.out j' h
                · exact hw
              clear hw hcd hx hrx
              generalize (⟨(cand L (fill j) n).toArray⟩ : ByteArray) = SC at *
              generalize (⟨(L ++ fill j ++ repeatL [x] 4).toArray⟩ : ByteArray) = ST at *
              generalize (⟨(L ++ fill j).toArray⟩ : ByteArray) = SA at *
              generalize (⟨(repeatL [x] 4).toArray⟩ : ByteArray) = SR at *
              generalize (⟨[x].toArray⟩ : ByteArray) = SX at *
              generalize (⟨(fill j).toArray⟩ : ByteArray) = SF at *
              generalize (⟨L.toArray⟩ : ByteArray) = S at *
              go_wp2_with fail
              refine (HRP.out wr).mono ?_
              rintro e w4 ⟨rfl, hb4⟩
              have HI4 : Hid (Below w3.heap.size w3 w4) := HI.out.trans (hb4.mono HI.out.size)
              clear hb4
              go_wp2_with fail
              refine (HWH.out w4).mono ?_
              rintro e w5 ⟨rfl, hb5⟩
              have HI5 : Hid (Below w3.heap.size w3 w5) := HI4.out.trans (hb5.mono HI4.out.size)
              clear hb5
              go_wp2
              go_roundg (7 - (j + 1))
              case measure => omega
              case rel => exact ⟨rfl, j + 1, by omega, by omega, by go_num, HI5.out, HN2.out⟩
          · have hfs : (⟨(fill j).toArray⟩ : ByteArray).size = 3 := by rw [← hsh]; simp [ByteArray.size]
            obtain ⟨x, hx⟩ : ∃ x, (fill j).drop 2 = [x] := by
              have : ((fill j).drop 2).length = 1 := by rw [List.length_drop, hsh]
              match h : (fill j).drop 2, this with
              | [x], _ => exact ⟨x, rfl⟩
            have xl := rest_list (fill j) 2
            rw [hfs, hx] at xl
            have a1 := bytes_append L (fill j)
            have a2 := bytes_append (L ++ fill j) (repeatL [x] 4)
            have hcd : (L ++ fill j ++ repeatL [x] 4).take n = cand L (fill j) n := by unfold cand; rw [hsh]; simp only [Nat.reduceSub]; rw [hx]
            have xt := take_list (L ++ fill j ++ repeatL [x] 4) n
            rw [hcd] at xt
            have hst : (⟨(L ++ fill j ++ repeatL [x] 4).toArray⟩ : ByteArray).size = L.length + 3 + 4 := by simp [ByteArray.size, repeatL_length, hsh]
            have hsl : (⟨L.toArray⟩ : ByteArray).size = L.length := by simp [ByteArray.size]
            have hsa : (⟨(L ++ fill j).toArray⟩ : ByteArray).size = L.length + 3 := by simp [ByteArray.size, hsh]
            have hsr : (⟨(repeatL [x] 4).toArray⟩ : ByteArray).size = 4 := by simp [ByteArray.size, repeatL_length]
            have HRP := Hid.mk' (fun W => Tryz.strings_Repeat ⟨[x].toArray⟩ 4 W (by decide) (show 1 * 4 ≤ 140737488355328 by decide))
            have hrx : (⟨[x].toArray⟩ : ByteArray).data.toList = [x] := rfl
            rw [hrx] at HRP
            have HWH := Hid.mk' (fun W => Whole_any (cand L (fill j) n) W (by rw [cand_len L j n hj hn4]; omega))
            cases hw : whole (cand L (fill j) n) with
            | true =>
              rw [hw] at HWH
              have HBT := Hid.mk' (cand_beg L j n h0 hj hn1 hn4 hw)
              clear hw hcd hx hrx
              generalize (⟨(cand L (fill j) n).toArray⟩ : ByteArray) = SC at *
              generalize (⟨(L ++ fill j ++ repeatL [x] 4).toArray⟩ : ByteArray) = ST at *
              generalize (⟨(L ++ fill j).toArray⟩ : ByteArray) = SA at *
              generalize (⟨(repeatL [x] 4).toArray⟩ : ByteArray) = SR at *
              generalize (⟨[x].toArray⟩ : ByteArray) = SX at *
              generalize (⟨(fill j).toArray⟩ : ByteArray) = SF at *
              generalize (⟨L.toArray⟩ : ByteArray) = S at *
              go_wp2_with fail
              refine (HRP.out wr).mono ?_
              rintro e w4 ⟨rfl, hb4⟩
              have HB4 : Hid (Below w.heap.size w w4) := HBI.out.trans (hb4.mono HBI.out.size)
              clear hb4
              go_wp2_with fail
              refine (HWH.out w4).mono ?_
              rintro e w5 ⟨rfl, hb5⟩
              have HB5 : Hid (Below w.heap.size w w5) := HB4.out.trans (hb5.mono HB4.out.size)
              clear hb5
              go_wp2
              go_ret
              exact ⟨by rw [HBT.out] <;> rfl, HB5.out⟩
            | false =>
              rw [hw] at HWH
              have HN2 : Hid (∀ j', j' < j + 1 → whole (cand L (fill j') n) = false) := fun j' h => by
                rcases (by omega : j' < j ∨ j' = j) with h | rfl
                · exact HN.out j' h
                · exact hw
              clear hw hcd hx hrx
              generalize (⟨(cand L (fill j) n).toArray⟩ : ByteArray) = SC at *
              generalize (⟨(L ++ fill j ++ repeatL [x] 4).toArray⟩ : ByteArray) = ST at *
              generalize (⟨(L ++ fill j).toArray⟩ : ByteArray) = SA at *
              generalize (⟨(repeatL [x] 4).toArray⟩ : ByteArray) = SR at *
              generalize (⟨[x].toArray⟩ : ByteArray) = SX at *
              generalize (⟨(fill j).toArray⟩ : ByteArray) = SF at *
              generalize (⟨L.toArray⟩ : ByteArray) = S at *
              go_wp2_with fail
              refine (HRP.out wr).mono ?_
              rintro e w4 ⟨rfl, hb4⟩
              have HI4 : Hid (Below w3.heap.size w3 w4) := HI.out.trans (hb4.mono HI.out.size)
              clear hb4
              go_wp2_with fail
              refine (HWH.out w4).mono ?_
              rintro e w5 ⟨rfl, hb5⟩
              have HI5 : Hid (Below w3.heap.size w3 w5) := HI4.out.trans (hb5.mono HI4.out.size)
              clear hb5
              go_wp2
              go_roundg (7 - (j + 1))
              case measure => omega
              case rel => exact ⟨rfl, j + 1, by omega, by omega, by go_num, HI5.out, HN2.out⟩
        · obtain rfl : j = 7 := by omega
          have HO2 : Hid (∀ n' j, L.length < n' → n' < n + 1 → j < 7 → whole (cand L (fill j) n') = false) := fun n' j h1 h2 h3 => by
            rcases (by omega : n' < n ∨ n' = n) with h | rfl
            · exact HO.out n' j h1 h h3
            · exact HN.out j h3
          clear hbi hnj
          go_wp2
          go_roundg (5 - (n + 1))
          case measure => omega
          case rel => exact ⟨rfl, n + 1, by omega, by omega, by omega, by omega, by go_num, HBI.out, HO2.out⟩
    · have hn4' : ¬ (n : Int) ≤ 4 := by omega
      have HBF := Hid.mk' (HNO.out fun n' j h1 h2 h3 => HO.out n' j h1 (by omega) h3)
      go_wp2
      go_ret
      exact ⟨by rw [HBF.out] <;> rfl, HB.out⟩

set_option maxHeartbeats 4000000 in
theorem Beginning_none (w : World) : Calls Tryz.prog 29 #[.string ⟨#[]⟩] w fun e w' => e = .returned (.bool false) ∧ Below w.heap.size w w' := by
  go_enter Tryz.func29, Tryz.ntmps29
  go_wp2_with fail
  go_loopg [2, 3] 0 (fun _ s2 s wr => s2 = .bool false ∧ s = .int .i64 1 ∧ wr = w)
  case atStart => exact ⟨rfl, rfl, rfl⟩
  case round =>
    obtain ⟨rfl, rfl, hw⟩ := hrel
    subst hw
    go_wp2
    go_ret
    exact ⟨rfl, Below.refl _ _⟩

theorem Beginning_any (L : List UInt8) (w : World) (hl : L.length ≤ 1073741824) :
    Calls Tryz.prog 29 #[.string ⟨L.toArray⟩] w fun e w' => e = .returned (.bool (beg L)) ∧ Below w.heap.size w w' := by
  by_cases h : L = []
  · subst h; exact Beginning_none w
  · exact Beginning_some L w h hl

end Go.Proofs.YtneiiinheimglaaGreatDoor.U
