/-
  Contracts of farref.Between, Bytes (at most 100 bytes) and KeysRight (38 bytes); no condition but those that each names.
-/
import Derived.Test.YtomgnnbcaficaaaDoorKCheck
import Derived.Laws.MakeOwn
import Derived.BigQuiet
import Derived.Deep.LoopGhost
import Derived.Deep.RegionHeld3
namespace Go.Proofs.YtomgnnbcaficaaaDoor.K
open Go.RowKit Go.Lib Go.Proofs.YtomgnnbcaficaaaDoor Go.Proofs.YtomgnnbcaficaaaDoor.W Go.Proofs.YtomgnnbcaficaaaDoor.Q


def icells (l : List UInt8) : List Value := l.map fun b => .int .i64 (b.toNat : Int)
theorem OwnB.box {w : World} {g : Nat} {l : List UInt8} (h : Box w g 5 (bcells l)) (hl : l.length ≤ 1000000) : OwnB w 0 (.slice (some ⟨g, 0, none⟩) l.length l.length) l :=
  ⟨by simp [bcells], .inr ⟨g, l.length, _, (0, 0), rfl, Nat.zero_le _, h, .inl rfl, Nat.le_refl _, by unfold maxLen; omega, by simp [bcells], by simp [bcells, List.take_of_length_le]⟩⟩
theorem take_set (l : List Value) (k : Nat) (v : Value) (h : k < l.length) : (l.set k v).take (k + 1) = l.take k ++ [v] := by
  have e : (l.set k v).take k = l.take k := by
    apply List.ext_getElem?
    intro i
    by_cases hi : i < k
    · simp [hi, show k ≠ i by omega]
    · simp [List.getElem?_take, hi]
  rw [List.take_succ_eq_append_getElem (by simpa using h), e]
  simp

def YState (w : World) (N : List UInt8) (i : Value) (wr : World) : Prop :=
  ∃ (k : Nat) (arr : List Value), k ≤ N.length ∧ i = .int .i64 k ∧ Box wr w.heap.size 5 arr ∧ arr.length = N.length ∧ arr.take k = bcells (N.take k) ∧ Below w.heap.size w wr

set_option maxHeartbeats 8000000 in
set_option maxRecDepth 100000 in
theorem Bytes_any (N : List UInt8) (g c : Nat) (w : World) (hn : N.length ≤ 100) (hc : ∀ k (h : k < N.length), w.cell? ⟨g, k, none⟩ = some (.int .i64 (N[k].toNat : Int))) (hg : g < w.heap.size) :
    Calls Tryd.prog 43 #[.slice (some ⟨g, 0, none⟩) N.length c] w fun e w' => e = .returned (.string ⟨N.toArray⟩) ∧ Below w.heap.size w w' := by
  obtain ⟨i0, hi, hz0, hz1, hz2⟩ := info_parts infoByte
  have hmk := run_makeSlice w 48 5 i0 (.int .u8 0) Tryd.underlying48 hi hz0 .i64 .i64 N.length N.length (by omega) (by omega) (by rw [hz1]; simp; omega) (by rw [hz2]; simp; omega) (by omega)
  rw [hz1] at hmk
  simp only [Int.toNat_natCast, Nat.mul_one] at hmk
  have HC := Hid.mk' hc
  have HS : Hid (YState w N (.int .i64 0) (w.alloc (.cells (madeCells (Value.int .u8 0).cells N.length) 5))) :=
    ⟨0, (madeCells (Value.int .u8 0).cells N.length).toList, Nat.zero_le _, rfl, by have := Box.new w 5 (madeCells (Value.int .u8 0).cells N.length).toList; rwa [Array.toArray_toList] at this, by simpa using size_madeCells _ _, by simp [bcells], (Below.refl _ _).alloc (Nat.le_refl _) _⟩
  generalize madeCells (Value.int .u8 0).cells N.length = arr0 at *
  clear hc
  go_enter Tryd.func43, Tryd.ntmps43
  go_wp2_with fail
  go_loopw [11] (fun i wr => YState w N i wr) (fun i _ => N.length - (RowKit.intOf i).toNat)
  case atStart => exact HS.out
  case round =>
    obtain ⟨k, arr, hk, rfl, hbox, hsz, htk, hbl⟩ := hrel
    clear HS hmk
    have HB := Hid.mk' hbl
    have HK := Hid.mk' hbox
    have HT := Hid.mk' htk
    clear htk
    by_cases hl : k < N.length
    · have h1 : wr.cell? ⟨g, k, none⟩ = some (.int .i64 (N[k].toNat : Int)) := (hbl.cell (p := ⟨g, k, none⟩) hg).trans (HC.out k hl)
      have h2 : ∃ x, wr.cell? ⟨w.heap.size, k, none⟩ = some x := ⟨_, hbox.cell (List.getElem?_eq_getElem (show k < arr.length by omega))⟩
      have h3 := hbox.frozen
      obtain ⟨x, h2⟩ := h2
      have hbn := N[k].toNat_lt
      have q1 : (0 : Int) ≤ (N[k].toNat : Int) := by omega
      have q2 : (N[k].toNat : Int) ≤ 255 := by omega
      have hts : N.take (k + 1) = N.take k ++ [N[k]] := List.take_succ_eq_append_getElem hl
      have HTS := Hid.mk' (show bcells (N.take (k + 1)) = bcells (N.take k) ++ [.int .u8 (N[k].toNat : Int)] by unfold bcells; rw [hts, List.map_append]; rfl)
      clear hbl hbox hbn hts
      generalize (N[k].toNat : Int) = y at *
      go_wp2
      go_roundw
      case rel =>
        refine ⟨k + 1, arr.set k (.int .u8 y), by omega, by go_num, HK.out.setCell _ _, by simpa using hsz, ?_, HB.out.setCell (by simp) _⟩
        rw [HTS.out, ← HT.out]
        exact take_set _ _ _ (by omega)
      case measure => simp [RowKit.intOf]; omega
    · obtain rfl : k = N.length := by omega
      have e : arr = bcells N := by
        have := HT.out
        rwa [List.take_length, List.take_of_length_le (by omega)] at this
      subst e
      have hstr : (convert 48 9 (.slice (some ⟨w.heap.size, 0, none⟩) N.length N.length)).run Tryd.prog wr = .ok (.string ⟨N.toArray⟩) wr := run_str (OwnB.box hbox (by omega))
      clear hbl hbox
      go_wp2
      go_ret
      exact ⟨rfl, HB.out⟩

theorem Bytes_ints (N : List UInt8) (w : World) (hn : N.length ≤ 100) :
    Calls Tryd.prog 43 #[.slice (some ⟨w.heap.size, 0, none⟩) N.length N.length] (w.alloc (.cells (icells N).toArray 3)) fun e w' => e = .returned (.string ⟨N.toArray⟩) ∧ Below w.heap.size w w' := by
  have H := Bytes_any N w.heap.size N.length (w.alloc (.cells (icells N).toArray 3)) hn (fun k h => (Box.new w 3 (icells N)).cell (by simp [icells, h])) (by simp)
  refine H.mono ?_
  rintro e w' ⟨rfl, hb⟩
  exact ⟨rfl, ((Below.refl _ _).alloc (Nat.le_refl _) _).trans (hb.mono (by simp))⟩


set_option maxHeartbeats 8000000 in
set_option maxRecDepth 100000 in
theorem KeysRight_any (k : List UInt8) (hk : k.length = 38) (w : World) :
    Calls Tryd.prog 22 #[KV k] w fun e w' => e = .returned (.int .i64 (chk k)) ∧ Below w.heap.size w w' := by
  have HY : Hid (∀ f, f < 19 → 2 < ((lv k f).toNat : Int) → chk k = 4) := fun f hf h => right_no fun hh => by have := (le2_iff _).1 (hh.2.2 f hf); omega
  have H0 : Hid (((lv k 0).toNat : Int) ≠ 0 → chk k = 4) := fun h => right_no fun hh => h ((eq0_iff _).1 hh.1)
  have H1 : Hid (((ch k 0).toNat : Int) ≠ 0 → chk k = 4) := fun h => right_no fun hh => h ((eq0_iff _).1 hh.2.1)
  have HN : Hid (((lv k 0).toNat : Int) = 0 → ((ch k 0).toNat : Int) = 0 → (∀ f, f < 19 → ((lv k f).toNat : Int) ≤ 2) → chk k = 0) := fun h0 h1 h => right_yes ⟨(eq0_iff _).2 h0, (eq0_iff _).2 h1, fun f hf => (le2_iff _).2 (h f hf)⟩
  generalize chk k = R at *
  have HC : Hid (∀ f, f < 19 → (bcells k)[f]? = some (.int .u8 ((lv k f).toNat : Int)) ∧ 0 ≤ ((lv k f).toNat : Int) ∧ ((lv k f).toNat : Int) ≤ 255) := fun f hf => ⟨bcells_lv k hk f hf, u8_bd _⟩
  have HD : Hid ((bcells k)[0]? = some (.int .u8 ((lv k 0).toNat : Int)) ∧ (bcells k)[19]? = some (.int .u8 ((ch k 0).toNat : Int)) ∧ 0 ≤ ((ch k 0).toNat : Int) ∧ ((ch k 0).toNat : Int) ≤ 255) := ⟨bcells_lv k hk 0 (by omega), bcells_ch k hk 0 (by omega), u8_bd _⟩
  unfold KV
  generalize bcells k = l at *
  go_enter Tryd.func22, Tryd.ntmps22
  go_wp2_with (refine wpList_box l 26 rfl _ rfl rfl ?_)
  intro w1 m1
  have HM := Hid.mk' m1.box
  have HB := Hid.mk' (m1.below _ _ (Nat.le_refl _) (Below.refl _ w))
  clear m1
  go_wp2_with fail
  go_loopg [4] 19 (fun g s wr => ∃ n : Nat, n ≤ 19 ∧ 19 - n ≤ g ∧ s = .int .i64 (n : Int) ∧ Hid (∀ f, f < n → ((lv k f).toNat : Int) ≤ 2) ∧ Hid (0 < n → (((lv k 0).toNat : Int) + ((ch k 0).toNat : Int)) % 256 = 0) ∧ Hid (Box wr w.heap.size 26 l) ∧ Hid (Below w.heap.size w wr))
  case atStart => exact ⟨0, Nat.zero_le _, by omega, rfl, fun a h => absurd h (Nat.not_lt_zero a), fun h => absurd h (Nat.lt_irrefl _), HM, HB⟩
  case round =>
    obtain ⟨n, hn, hg, rfl, HO, HP, HX, HL⟩ := hrel
    clear HB HM
    by_cases hlt : n < 19
    · have n0 : (0 : Int) ≤ (n : Int) := by omega
      have n1 : (n : Int) < 19 := by omega
      obtain ⟨hc, x0, x1⟩ := HC.out n hlt
      have e1 := HX.out.cell hc
      have HR := Hid.mk' (HY.out n hlt)
      have HS : Hid (((lv k n).toNat : Int) ≤ 2 → ∀ f, f < n + 1 → ((lv k f).toNat : Int) ≤ 2) := fun h f hf => by
        by_cases e : f = n
        · subst e; exact h
        · exact HO.out f (by omega)
      generalize hx : ((lv k n).toNat : Int) = x at *
      by_cases h2 : 2 < x
      · have HR2 := Hid.mk' (HR.out h2)
        have hd : decide (2 < x) = true := decide_eq_true h2
        clear HS HR HY HC HX HP HO hx HN HD H0 H1
        go_wp2_with fail
        go_quiet (fail)
        all_goals go_wp2
        all_goals go_ret
        all_goals rw [HR2.out]
        all_goals exact ⟨rfl, below_drewN HL.out _⟩
      · have HS2 := Hid.mk' (HS.out (by omega))
        have hd : decide (2 < x) = false := decide_eq_false h2
        by_cases hz : n = 0
        · subst hz
          rw [hx] at HN HD
          obtain ⟨d0, d1, y0, y1⟩ := HD.out
          have e2 := HX.out.cell d1
          have HI : Hid (¬ (x + ((ch k 0).toNat : Int)) % 256 = 0 → R = 4) := fun hs => by
            by_cases hy : ((ch k 0).toNat : Int) = 0
            · exact H0.out (by rw [hx]; omega)
            · exact H1.out hy
          have HPP : Hid ((x + ((ch k 0).toNat : Int)) % 256 = 0 → (((lv k 0).toNat : Int) + ((ch k 0).toNat : Int)) % 256 = 0) := fun h => by rw [hx]; exact h
          have HXD : ∀ m, Hid (Box (wr.drewN m) w.heap.size 26 l) := fun m => HX.out
          have HLD : ∀ m, Hid (Below w.heap.size w (wr.drewN m)) := fun m => below_drewN HL.out m
          clear d0 d1 HD H1 hx HN HY H0 HP HO HS HR HC HX HL
          have HQ : Hid (∀ y : Int, y = ((ch k 0).toNat : Int) → (x + y) % 256 = 0 → 0 < 0 + 1 → (((lv k 0).toNat : Int) + ((ch k 0).toNat : Int)) % 256 = 0) := fun y e h _ => HPP.out (by rw [← e]; exact h)
          clear HPP
          generalize hy : ((ch k 0).toNat : Int) = y at *
          by_cases hs : (x + y) % 256 = 0
          · have HSS := Hid.mk' (HQ.out y rfl hs)
            have hw : IntKind.u8.wrap (x + y) = 0 := by rw [IntKind.wrap_u8]; exact hs
            clear hs HI HQ hy
            go_wp2_with fail
            go_quiet (fail)
            all_goals go_wp2
            all_goals go_roundg (19 - (0 + 1))
            case measure => omega
            case rel => exact ⟨0 + 1, by omega, by omega, by go_num, HS2.out, HSS.out, HXD _, HLD _⟩
          · have hs2 : R = 4 := HI.out hs
            have hw : ((x + y) % 256 == 0) = false := beq_eq_false_iff_ne.2 hs
            have HLF := Hid.mk' (fun m => (HLD m).out)
            subst hs2
            clear hs HI HQ HXD HLD
            go_wp2_with fail
            go_quiet (fail)
            all_goals go_wp2
            all_goals go_ret
            all_goals exact ⟨rfl, HLF.out _⟩
        · have hz1 : ((n : Int) == 0) = false := by rw [beq_eq_false_iff_ne]; omega
          have HP2 := Hid.mk' (HP.out (by omega))
          have HXD : ∀ m, Hid (Box (wr.drewN m) w.heap.size 26 l) := fun m => HX.out
          have HLD : ∀ m, Hid (Below w.heap.size w (wr.drewN m)) := fun m => below_drewN HL.out m
          clear HS HR HY HC HX HP HO hx HN HD H0 H1 HL
          go_wp2_with fail
          go_quiet (fail)
          all_goals go_wp2
          all_goals go_roundg (19 - (n + 1))
          case measure => omega
          case rel => exact ⟨n + 1, by omega, by omega, by go_num, HS2.out, fun _ => HP2.out, HXD _, HLD _⟩
    · obtain rfl : n = 19 := by omega
      have HPP := HP.out (by omega)
      obtain ⟨d0, d1, d2, d3⟩ := HD.out
      have l0 := HO.out 0 (by omega)
      have l1 := (HC.out 0 (by omega)).2.1
      have e1 := HX.out.cell d1
      clear d0 d1 HC HD HX HY H0
      generalize ((lv k 0).toNat : Int) = x at *
      generalize ((ch k 0).toNat : Int) = y at *
      by_cases hy : y = 0
      · have HR := HN.out (by omega) hy HO.out
        subst HR
        clear HPP HN HO
        subst hy
        go_wp2
        go_ret
        exact ⟨rfl, HL.out⟩
      · have HR := H1.out hy
        have hy2 : 0 < y := by omega
        subst HR
        clear HPP HN HO
        go_wp2
        go_ret
        exact ⟨rfl, HL.out⟩
end Go.Proofs.YtomgnnbcaficaaaDoor.K
