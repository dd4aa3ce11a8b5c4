/-
  Contract of about.Walk; condition: at most 2^44 names.
-/
import Derived.Test.YtgghplfcdkedcaaWCheck
namespace Go.Proofs.Ytgghplfcdkedcaa.W
open Go.RowKit Go.Lib Go.Proofs.Ytgghplfcdkedcaa Go.Proofs.Ytgghplfcdkedcaa.Q

set_option maxHeartbeats 4000000 in
theorem Walk_bad (w : World) (v : Value) (l : List ByteArray) (n : Int) (hv : RdS w v l) (hn : l.length ≤ 17592186044416) (h : (chk l 0 == 0) = false) :
    Calls Try.prog 17 #[v, .int .i64 n] w fun e w' => e = .returned (.tuple #[.slice none 0 0, .int .i64 (chk l 0)]) ∧ Below w.heap.size w w' := by
  have HB := Hid.mk' ((Below.refl w.heap.size w).alloc (Nat.le_refl _) (.cells #[v, .int .i64 0] 30))
  have HC := Hid.mk' (Check_any _ v l 0 (hv.below HB.out) hn)
  obtain ⟨a, c, rfl, hc, hr⟩ := hv
  clear hr
  generalize chk l 0 = R at *
  go_enter Try.func17, Try.ntmps17
  go_wp2_with fail
  refine HC.out.mono ?_
  rintro e w1 ⟨rfl, hb⟩
  have HB1 := Hid.mk' (HB.out.trans (hb.mono HB.out.size))
  clear hb HB
  go_wp2
  go_ret2
  exact ⟨rfl, HB1.out⟩

set_option maxHeartbeats 4000000 in
theorem Walk_times (w : World) (v : Value) (l : List ByteArray) (n : Int) (hv : RdS w v l) (hn : l.length ≤ 17592186044416) (h : chk l 0 = 0) (ht : ¬ (0 ≤ n ∧ n ≤ 100)) :
    Calls Try.prog 17 #[v, .int .i64 n] w fun e w' => e = .returned (.tuple #[.slice none 0 0, .int .i64 1]) ∧ Below w.heap.size w w' := by
  have HB := Hid.mk' ((Below.refl w.heap.size w).alloc (Nat.le_refl _) (.cells #[v, .int .i64 0] 30))
  have HC := Hid.mk' (Check_any _ v l 0 (hv.below HB.out) hn)
  rw [h] at HC
  obtain ⟨a, c, rfl, hc, hr⟩ := hv
  clear hr h
  by_cases h0 : n < 0
  · clear ht
    go_enter Try.func17, Try.ntmps17
    go_wp2_with fail
    refine HC.out.mono ?_
    rintro e w1 ⟨rfl, hb⟩
    have HB1 := Hid.mk' (HB.out.trans (hb.mono HB.out.size))
    clear hb HB
    go_wp2
    go_ret2
    exact ⟨rfl, HB1.out⟩
  · have h1 : 100 < n := by omega
    clear ht
    go_enter Try.func17, Try.ntmps17
    go_wp2_with fail
    refine HC.out.mono ?_
    rintro e w1 ⟨rfl, hb⟩
    have HB1 := Hid.mk' (HB.out.trans (hb.mono HB.out.size))
    clear hb HB
    go_wp2
    go_ret2
    exact ⟨rfl, HB1.out⟩

/-- the names that so many answers tell -/
def walkL (l : List ByteArray) (n : Nat) : List ByteArray := (List.range n).map fun j => nm l (j % (l.length + 1))
theorem walkL_length (l : List ByteArray) (n : Nat) : (walkL l n).length = n := by simp [walkL]
theorem walkL_succ (l : List ByteArray) (n : Nat) : scells (walkL l (n + 1)) = scells (walkL l n) ++ [.string (nm l (n % (l.length + 1)))] := by
  simp [walkL, scells, List.range_succ]
theorem nx_mod (l : List ByteArray) (k : Nat) : nx l (k % (l.length + 1)) = (k + 1) % (l.length + 1) := by
  unfold nx
  have hlt : k % (l.length + 1) < l.length + 1 := Nat.mod_lt _ (by omega)
  rw [Nat.add_mod]
  by_cases h0 : l.length = 0
  · rw [h0]; simp [Nat.mod_one]
  rw [show 1 % (l.length + 1) = 1 from Nat.mod_eq_of_lt (by omega)]
  split
  · next h => rw [h, Nat.mod_self]
  · rw [Nat.mod_eq_of_lt (a := k % (l.length + 1) + 1) (by omega)]

theorem infoString : (Try.prog.info? 9).map (fun i => (i.zero, i.size, i.bytes)) = some (some (.string ⟨#[]⟩), 1, 16) := by kernel_rfl

def WState (w : World) (v : Value) (l : List ByteArray) (n G : Nat) (s27 : Value) (wr : World) : Prop :=
  ∃ (k : Nat) (arr : List Value), k ≤ n ∧ s27 = .int .i64 (k : Int) ∧ Box wr w.heap.size 30 [v, .int .i64 ((k % (l.length + 1) : Nat) : Int)] ∧ Box wr G 9 arr ∧ arr.length = n ∧ arr.take k = scells (walkL l k) ∧ Below w.heap.size w wr

set_option maxHeartbeats 4000000 in
set_option maxRecDepth 100000 in
theorem Walk_ok (w : World) (v : Value) (l : List ByteArray) (n : Nat) (hv : RdS w v l) (hn : l.length ≤ 17592186044416) (h : chk l 0 = 0) (h0 : 0 < l.length) (ht : n ≤ 100) :
    Calls Try.prog 17 #[v, .int .i64 (n : Int)] w fun e w' => ∃ g, e = .returned (.tuple #[.slice (some ⟨g, 0, none⟩) n n, .int .i64 0]) ∧ Box w' g 9 (scells (walkL l n)) ∧ w.heap.size ≤ g ∧ Below w.heap.size w w' := by
  have HB := Hid.mk' ((Below.refl w.heap.size w).alloc (Nat.le_refl _) (.cells #[v, .int .i64 0] 30))
  have HC := Hid.mk' (Check_any _ v l 0 (hv.below HB.out) hn)
  rw [h] at HC
  have HX : Hid (∀ W, Below w.heap.size w W → ∀ k, k ≤ l.length → Calls Try.prog 24 #[.agg #[v, .int .i64 (k : Int)]] W fun e w' => e = .returned (.tuple #[.string (nm l k), .int .i64 (nx l k : Int)]) ∧ Below W.heap.size W w') := fun W hW k hk => next_any W v l k (hv.below hW) hn h0 hk
  have HBX : Hid (Box (w.alloc (.cells #[v, .int .i64 0] 30)) w.heap.size 30 [v, .int .i64 0]) := Box.new w _ _
  obtain ⟨i0, hi, hz0, hz1, hz2⟩ := info_parts infoString
  have HMK : Hid (∀ W : World, (Instr.makeSlice 28 (.int .i64 (n : Int)) (.int .i64 (n : Int))).run Try.prog W = .ok (.slice (some ⟨W.heap.size, 0, none⟩) n n) (W.alloc (.cells (madeCells (Value.string ⟨#[]⟩).cells n) 9))) := fun W => by
    have hmk := run_makeSlice W 28 9 i0 (.string ⟨#[]⟩) Try.underlying28 hi hz0 .i64 .i64 n n (by omega) (by omega) (by rw [hz1]; simp; omega) (by rw [hz2]; simp; omega) (by omega)
    rw [hz1] at hmk
    simpa only [Int.toNat_natCast, Nat.mul_one] using hmk
  have HSZ : Hid ((madeCells (Value.string ⟨#[]⟩).cells n).toList.length = n) := by show _ = _; simpa using size_madeCells (Value.string ⟨#[]⟩).cells n
  obtain ⟨a, c, rfl, hc, hr⟩ := hv
  clear hr h
  generalize madeCells (Value.string ⟨#[]⟩).cells n = arr0 at *
  have ht' : ¬ (100 : Int) < (n : Int) := by omega
  go_enter Try.func17, Try.ntmps17
  go_wp2_with fail
  refine HC.out.mono ?_
  rintro e w1 ⟨rfl, hb⟩
  have HB1 := Hid.mk' (HB.out.trans (hb.mono HB.out.size))
  have HT1 := Hid.mk' (HBX.out.later hb)
  have hlt1 : w.heap.size < w1.heap.size := HT1.out.lt
  have hmk := HMK.out w1
  have HS0 : Hid (WState w (.slice a l.length c) l n w1.heap.size (.int .i64 0) (w1.alloc (.cells arr0 9))) :=
    ⟨0, arr0.toList, Nat.zero_le _, rfl, by rw [Nat.zero_mod]; exact HT1.out.alloc _, by have := Box.new w1 9 arr0.toList; rwa [Array.toArray_toList] at this, HSZ.out, by simp [walkL, scells], HB1.out.alloc (by omega) _⟩
  clear hb HB HBX HMK HSZ HC
  go_wp2_with fail
  go_loopw [27] (fun s27 wr => WState w (.slice a l.length c) l n w1.heap.size s27 wr) (fun i _ => n - (RowKit.intOf i).toNat)
  case atStart => exact HS0.out
  case round =>
    obtain ⟨k, arr, hk, rfl, hT, hG, hal, htk, hbl⟩ := hrel
    clear HS0 hmk HB1 HT1
    have hm : k % (l.length + 1) ≤ l.length := by have := Nat.mod_lt k (show 0 < l.length + 1 by omega); omega
    by_cases hl : k < n
    · have HN := Hid.mk' (HX.out wr hbl (k % (l.length + 1)) hm)
      rw [nx_mod] at HN
      have HTS := Hid.mk' (walkL_succ l k)
      have HT := Hid.mk' hT
      have HG := Hid.mk' hG
      have HK := Hid.mk' htk
      have HBL := Hid.mk' hbl
      have c0 := hT.cell (j := 0) rfl
      have c1 := hT.cell (j := 1) rfl
      clear hT hG htk hbl HX
      generalize nm l (k % (l.length + 1)) = x at *
      generalize hy : k % (l.length + 1) = y at *
      generalize hz : (k + 1) % (l.length + 1) = z at *
      have HZ := Hid.mk' hz
      clear hy hz
      go_wp2_with fail
      refine HN.out.mono ?_
      rintro e w2 ⟨rfl, hb2⟩
      have HT2 := Hid.mk' (HT.out.later hb2)
      have HG2 := Hid.mk' (HG.out.later hb2)
      have HB2 := Hid.mk' (HBL.out.trans (hb2.mono HBL.out.size))
      clear hb2 c0 c1 HT HG HBL HN
      have d1 := HG2.out.cell (List.getElem?_eq_getElem (show k < arr.length by omega))
      have d2 := HG2.out.frozen k
      have d3 : ∀ u, (w2.setCell ⟨w1.heap.size, k, none⟩ u).cell? ⟨w.heap.size, 1, none⟩ = some (.int .i64 (y : Int)) := fun u => (HT2.out.kept (setCell_other _ _ _ _ (by omega))).cell rfl
      have d4 : ∀ u, (w2.setCell ⟨w1.heap.size, k, none⟩ u).frozen? ⟨w.heap.size, 1, none⟩ = false := fun u => (HT2.out.kept (setCell_other _ _ _ _ (by omega))).frozen 1
      generalize arr[k]'(by omega) = x0 at *
      go_wp2
      go_roundw
      case rel =>
        refine ⟨k + 1, arr.set k (.string x), by omega, by go_num, ?_, ?_, by simpa using hal, ?_, (HB2.out.setCell (by simp; omega) _).setCell (by simp) _⟩
        · rw [HZ.out]
          exact (HT2.out.kept (setCell_other _ _ _ _ (by omega))).setCell 1 _
        · exact (HG2.out.setCell k _).kept (setCell_other _ _ _ _ (by omega))
        · rw [HTS.out, ← HK.out]
          exact take_set _ _ _ (by omega)
      case measure => simp [RowKit.intOf]; omega
    · obtain rfl : k = n := by omega
      have e : arr = scells (walkL l k) := by rwa [List.take_of_length_le (by omega)] at htk
      subst e
      have HG := Hid.mk' hG
      have HBL := Hid.mk' hbl
      clear hT hG htk hbl HX
      go_wp2
      go_ret2
      exact ⟨_, rfl, HG.out, by omega, HBL.out⟩
end Go.Proofs.Ytgghplfcdkedcaa.W
