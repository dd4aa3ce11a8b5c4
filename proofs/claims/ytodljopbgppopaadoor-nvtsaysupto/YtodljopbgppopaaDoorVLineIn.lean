/-
  Plain laws of the document's reading from one 13 to the next; contracts of farref.LineOut and farref.LineIn; conditions: at most 1048576 bytes, and the variable internal/bytealg.MaxLen holds some int.
-/
import Derived.Test.YtodljopbgppopaaDoorVRep
import Derived.Deep.Draws
import Derived.Deep.LoopGhost
namespace Go.Proofs.YtodljopbgppopaaDoor.V
open Go.RowKit Go.Lib Go.Proofs.YtodljopbgppopaaDoor

theorem rep_put (b : UInt8) : rep 10 [13, 10] (if b = 13 then [13, 0] else [b]) = put b := by
  unfold put
  by_cases h : b = 13
  · subst h; rfl
  · simp only [if_neg h, rep, List.append_nil]
theorem rep_out (l : List UInt8) : rep 10 [13, 10] (rep 13 [13, 0] l) = out l := by
  induction l with
  | nil => rfl
  | cons b l ih => rw [rep, rep_app, ih, rep_put, out]

theorem cut_spec (s : List UInt8) : (Lib.cut s [13] = (s, [], false) ∧ 13 ∉ s ∧ Lib.index s [13] = -1) ∨ ∃ a b, s = a ++ 13 :: b ∧ 13 ∉ a ∧ Lib.cut s [13] = (a, b, true) ∧ Lib.index s [13] = (a.length : Int) := by
  induction s with
  | nil => exact .inl ⟨rfl, by simp, rfl⟩
  | cons x s ih =>
    by_cases hx : x = 13
    · subst hx
      have e : Lib.index (13 :: s) [13] = 0 := by simp [Lib.index]
      exact .inr ⟨[], s, rfl, by simp, by simp [Lib.cut, e], e⟩
    · have hp : ¬ ([13] : List UInt8).isPrefixOf (x :: s) = true := by simp [List.isPrefixOf]; exact fun e => hx e.symm
      rcases ih with ⟨h1, h2, h3⟩ | ⟨a, b, h1, h2, h3, h4⟩
      · have e : Lib.index (x :: s) [13] = -1 := by rw [Lib.index, if_neg hp, h3]; rfl
        refine .inl ⟨by simp [Lib.cut, e], ?_, e⟩
        simp only [List.mem_cons, not_or]
        exact ⟨fun e => hx e.symm, h2⟩
      · have e : Lib.index (x :: s) [13] = ((a.length + 1 : Nat) : Int) := by
          rw [Lib.index, if_neg hp, h4, if_neg (by simp)]; omega
        refine .inr ⟨x :: a, b, by rw [h1]; rfl, ?_, ?_, by simpa using e⟩
        · simp only [List.mem_cons, not_or]
          exact ⟨fun e => hx e.symm, h2⟩
        · have hn : (0 : Int) ≤ ((a.length + 1 : Nat) : Int) := by omega
          rw [Lib.cut, e, if_pos hn, Int.toNat_natCast, h1]
          simp

theorem rd_plain (a : List UInt8) (h : 13 ∉ a) : rd false a = (false, a) := by
  induction a with
  | nil => rfl
  | cons x a ih =>
    simp only [List.mem_cons, not_or] at h
    have hx : x ≠ 13 := fun e => h.1 e.symm
    have e : tk false x = (false, [x]) := by simp [tk, hx]
    rw [rd, e, ih h.2]; rfl
theorem rd_first (a b : List UInt8) (h : 13 ∉ a) : rd false (a ++ 13 :: b) = ((rd true b).1, a ++ (rd true b).2) := by
  rw [rd_app, rd_plain a h]; rfl
theorem rd_flush (cr : Bool) (l : List UInt8) : rd false (flush cr ++ l) = rd cr l := by
  cases cr
  · rfl
  · show rd false (13 :: l) = _
    rw [rd]; rfl
theorem rd_other (b : UInt8) (l : List UInt8) (h1 : b ≠ 10) (h2 : b ≠ 0) : rd true (b :: l) = ((rd false (b :: l)).1, [13] ++ (rd false (b :: l)).2) := by
  have e : tk true b = ((tk false b).1, [13] ++ (tk false b).2) := by simp [tk, h1, h2]
  rw [rd, rd, e]; simp
theorem rd_lf (l : List UInt8) : rd true (10 :: l) = ((rd false l).1, [10] ++ (rd false l).2) := rfl
theorem rd_nul (l : List UInt8) : rd true (0 :: l) = ((rd false l).1, [13] ++ (rd false l).2) := rfl

set_option maxHeartbeats 2000000 in
theorem LineOut_any (l : List UInt8) (binary : Bool) (m : Int) (w : World) (hl : l.length ≤ 1048576) (hm : w.cell? ⟨0, 0, none⟩ = some (.int .i64 m)) :
    Calls Tryd.prog 8 #[.string ⟨l.toArray⟩, .bool binary] w fun e w' => e = .returned (.string ⟨(outB binary l).toArray⟩) ∧ Below w.heap.size w w' := by
  cases binary with
  | true =>
    rw [show outB true l = l from rfl]
    generalize (⟨l.toArray⟩ : ByteArray) = S at *
    go_enter Tryd.func8, Tryd.ntmps8
    go_wp2
    go_ret
    exact ⟨rfl, Below.refl _ _⟩
  | false =>
    rw [show outB false l = out l from rfl]
    have h0 : 0 < w.heap.size := World.block_lt_of_cell? _ _ hm
    have H1 := Hid.mk' (Rep_any 13 [13, 0] l m w (by omega) (by simp) hm)
    have hl2 := rep_len 13 [13, 0] (by simp) l
    have H2 : Hid (∀ W, Below w.heap.size w W → _) := Hid.mk' (fun W hW => Rep_any 10 [13, 10] (rep 13 [13, 0] l) m W (by omega) (by simp) ((hW.cell (p := ⟨0, 0, none⟩) h0).trans hm))
    rw [rep_out] at H2
    generalize (⟨(rep 13 [13, 0] l).toArray⟩ : ByteArray) = S1 at *
    generalize (⟨l.toArray⟩ : ByteArray) = S at *
    clear hm hl2
    go_enter Tryd.func8, Tryd.ntmps8
    go_wp2_with fail
    refine H1.out.mono ?_
    rintro e w1 ⟨rfl, hb1⟩
    have HB1 := Hid.mk' hb1
    have hs1 := hb1.size
    clear hb1
    go_wp2_with fail
    refine (H2.out w1 HB1.out).mono ?_
    rintro e w2 ⟨rfl, hb2⟩
    have HB2 : Hid (Below w.heap.size w w2) := HB1.out.trans (hb2.mono hs1)
    clear hb2
    go_wp2
    go_ret
    exact ⟨rfl, HB2.out⟩

theorem Cut_any (l : List UInt8) (m : Int) (w : World) (hl : l.length ≤ 4000000) (hm : w.cell? ⟨0, 0, none⟩ = some (.int .i64 m)) :
    Calls Tryd.prog 14 #[.string ⟨l.toArray⟩, .string ⟨#[13]⟩] w fun e w' => e = .returned (.tuple #[.string ⟨(Lib.cut l [13]).1.toArray⟩, .string ⟨(Lib.cut l [13]).2.1.toArray⟩, .bool (Lib.cut l [13]).2.2]) ∧ ∃ n, w' = w.drewN n :=
  Tryd.strings_Cut ⟨l.toArray⟩ ⟨#[13]⟩ m w (by rw [size_mk]; omega) hm

def LState (w : World) (N : Nat) (R : Bool × List UInt8) (g : Nat) (s1 s5 : Value) (wr : World) : Prop :=
  ∃ s o : List UInt8, s.length ≤ g ∧ o.length + s.length ≤ N ∧ s1 = .string ⟨s.toArray⟩ ∧ s5 = .string ⟨o.toArray⟩ ∧ R = ((rd false s).1, o ++ (rd false s).2) ∧ Below w.heap.size w wr

theorem below_drewN {B : Nat} {a w : World} (h : Below B a w) (n : Nat) : Below B a (w.drewN n) := ⟨h.os, h.tape, h.output, h.size, h.block⟩
theorem str_empty {L : List UInt8} (h : L ≠ []) : (⟨L.toArray⟩ : ByteArray).toList.isEmpty = false := by
  rw [Lib.toList_data]
  cases L with
  | nil => exact absurd rfl h
  | cons a L => rfl
theorem rest_list (L : List UInt8) (k : Nat) : (⟨L.toArray⟩ : ByteArray).extract k (⟨L.toArray⟩ : ByteArray).size = ⟨(L.drop k).toArray⟩ := by
  apply ByteArray.ext
  rw [ByteArray.data_extract]
  apply Array.toList_inj.1
  simp only [Array.toList_extract, List.extract_eq_take_drop]
  have : (⟨L.toArray⟩ : ByteArray).size = L.length := by simp [ByteArray.size]
  rw [this, List.take_of_length_le (by simp)]

set_option maxHeartbeats 4000000 in
set_option maxRecDepth 100000 in
theorem LineIn_loop (cr : Bool) (l : List UInt8) (m : Int) (w : World) (hl : l.length ≤ 1048576) (hm : w.cell? ⟨0, 0, none⟩ = some (.int .i64 m)) :
    Calls Tryd.prog 6 #[.bool cr, .string ⟨l.toArray⟩, .bool false] w fun e w' => e = .returned (.tuple #[.bool (rd cr l).1, .string ⟨(rd cr l).2.toArray⟩]) ∧ Below w.heap.size w w' := by
  have h0 : 0 < w.heap.size := World.block_lt_of_cell? _ _ hm
  have HC : Hid (∀ W, Below w.heap.size w W → ∀ x : List UInt8, x.length ≤ 4000000 → _) := Hid.mk' (fun W hW x hx => Cut_any x m W hx ((hW.cell (p := ⟨0, 0, none⟩) h0).trans hm))
  have hfl := flush_len cr
  have HS : Hid (LState w 1048577 (rd cr l) 1048577 (.string ⟨(flush cr ++ l).toArray⟩) (.string ⟨#[]⟩) w) :=
    ⟨flush cr ++ l, [], by simp; omega, by simp; omega, rfl, rfl, by rw [rd_flush]; rfl, Below.refl _ _⟩
  cases cr with
  | false =>
      rw [show flush false ++ l = l from rfl] at HS
      have hsz := size_mk l
      generalize (⟨l.toArray⟩ : ByteArray) = S at *
      generalize rd false l = R at *
      go_enter Tryd.func6, Tryd.ntmps6
      go_wp2_with fail
      go_loopg [1, 8] 1048577 (fun g s1 s8 wr => LState w 1048577 R g s1 s8 wr)
      case atStart => exact HS.out
      case round =>
        obtain ⟨s, o, hg, hN, rfl, rfl, hR, hbl⟩ := hrel
        clear HS
        have HB := Hid.mk' hbl
        have hsp := cut_spec s
        have HCs := Hid.mk' (HC.out wr hbl s (by omega))
        have hzo := size_mk o
        rcases hsp with ⟨hc, hns, _⟩ | ⟨a, b, hs, ha, hc, _⟩
        · rw [hc] at HCs
          rw [rd_plain s hns] at hR
          have HF := Hid.mk' (bytes_append o s)
          have hzs := size_mk s
          have HR2 := Hid.mk' hR
          clear hR hbl hc hns
          generalize (⟨s.toArray⟩ : ByteArray) = S1 at *
          generalize (⟨o.toArray⟩ : ByteArray) = O1 at *
          go_wp2_with fail
          refine HCs.out.mono ?_
          rintro e w1 ⟨rfl, n, rfl⟩
          go_wp2
          refine bodyPost_ret (v := .tuple #[.bool false, .string (O1 ++ S1)]) (by simp [results, Tryd.results6, go_sem]) rfl ⟨?_, below_drewN HB.out n⟩
          rw [HR2.out, HF.out]
        have hsl : s.length = a.length + 1 + b.length := by rw [hs]; simp; omega
        rw [hc] at HCs
        rw [hs, rd_first a b ha] at hR
        clear hs
        have hza := size_mk a
        have hzb := size_mk b
        cases b with
        | nil =>
          have HF := Hid.mk' (bytes_append o a)
          have HR2 := Hid.mk' hR
          clear hR hbl hc ha
          generalize (⟨s.toArray⟩ : ByteArray) = S1 at *
          generalize (⟨o.toArray⟩ : ByteArray) = O1 at *
          generalize (⟨a.toArray⟩ : ByteArray) = A1 at *
          go_wp2_with fail
          refine HCs.out.mono ?_
          rintro e w1 ⟨rfl, n, rfl⟩
          go_wp2
          refine bodyPost_ret (v := .tuple #[.bool true, .string (O1 ++ A1)]) (by simp [results, Tryd.results6, go_sem]) rfl ⟨?_, below_drewN HB.out n⟩
          rw [HR2.out, HF.out, rd, List.append_nil]
        | cons x b2 =>
          have hbe := str_empty (L := x :: b2) (by simp)
          have hx0 := get_mk (x :: b2) 0 (by simp) (by rw [hzb]; simp)
          have xk := rest_list (x :: b2) 1
          rw [show (x :: b2).drop 1 = b2 from rfl] at xk
          rw [List.length_cons] at hzb hsl
          rw [show (x :: b2)[0]'(by simp) = x from rfl] at hx0
          obtain ⟨X, hX⟩ : ∃ X, X = (⟨b2.toArray⟩ : ByteArray) := ⟨_, rfl⟩
          rw [← hX] at xk
          have HX := Hid.mk' hX.symm
          have hF := bytes_append o a
          by_cases h10 : x = 10
          · subst h10
            rw [rd_lf] at hR
            have HR2 : Hid (R = ((rd false b2).1, o ++ a ++ [10] ++ (rd false b2).2)) := by
              show _ = _
              rw [hR]; simp
            have HY : Hid ((⟨(o ++ a ++ [10]).toArray⟩ : ByteArray) = ⟨o.toArray⟩ ++ ⟨a.toArray⟩ ++ ⟨#[10]⟩) := by
              show _ = _
              rw [hF]; exact (bytes_append _ _).symm
            clear hR hbl hc ha hX hF
            generalize (⟨s.toArray⟩ : ByteArray) = S1 at *
            generalize (⟨o.toArray⟩ : ByteArray) = O1 at *
            generalize (⟨a.toArray⟩ : ByteArray) = A1 at *
            generalize hB1 : (⟨(10 :: b2).toArray⟩ : ByteArray) = B1 at *
            have HB1 := Hid.mk' hB1
            clear hB1
            go_wp2_with fail
            refine HCs.out.mono ?_
            rintro e w1 ⟨rfl, n, rfl⟩
            have HB2 := Hid.mk' (below_drewN HB.out n).drew
            go_wp2_with fail
            go_region
            all_goals
              go_wp2
              go_roundg b2.length
              case measure => omega
              case rel => exact ⟨b2, o ++ a ++ [10], Nat.le_refl _, by simp only [List.length_append, List.length_singleton]; omega, by rw [HX.out, ← xk, hzb], by rw [HY.out], HR2.out, HB2.out⟩
          by_cases h00 : x = 0
          · subst h00
            rw [rd_nul] at hR
            have HR2 : Hid (R = ((rd false b2).1, o ++ a ++ [13] ++ (rd false b2).2)) := by
              show _ = _
              rw [hR]; simp
            have HY : Hid ((⟨(o ++ a ++ [13]).toArray⟩ : ByteArray) = ⟨o.toArray⟩ ++ ⟨a.toArray⟩ ++ ⟨#[13]⟩) := by
              show _ = _
              rw [hF]; exact (bytes_append _ _).symm
            clear hR hbl hc ha hX hF
            generalize (⟨s.toArray⟩ : ByteArray) = S1 at *
            generalize (⟨o.toArray⟩ : ByteArray) = O1 at *
            generalize (⟨a.toArray⟩ : ByteArray) = A1 at *
            generalize hB1 : (⟨(0 :: b2).toArray⟩ : ByteArray) = B1 at *
            have HB1 := Hid.mk' hB1
            clear hB1
            go_wp2_with fail
            refine HCs.out.mono ?_
            rintro e w1 ⟨rfl, n, rfl⟩
            have HB2 := Hid.mk' (below_drewN HB.out n).drew
            go_wp2_with fail
            go_region
            all_goals
              go_wp2
              go_roundg b2.length
              case measure => omega
              case rel => exact ⟨b2, o ++ a ++ [13], Nat.le_refl _, by simp only [List.length_append, List.length_singleton]; omega, by rw [HX.out, ← xk, hzb], by rw [HY.out], HR2.out, HB2.out⟩
          · rw [rd_other x b2 h10 h00] at hR
            have HR2 : Hid (R = ((rd false (x :: b2)).1, o ++ a ++ [13] ++ (rd false (x :: b2)).2)) := by
              show _ = _
              rw [hR]; simp
            have HY : Hid ((⟨(o ++ a ++ [13]).toArray⟩ : ByteArray) = ⟨o.toArray⟩ ++ ⟨a.toArray⟩ ++ ⟨#[13]⟩) := by
              show _ = _
              rw [hF]; exact (bytes_append _ _).symm
            have hn0 : (x.toNat : Int) ≠ 0 := fun e => h00 (UInt8.toNat_inj.1 (Int.ofNat_inj.1 e))
            have hn10 : (x.toNat : Int) ≠ 10 := fun e => h10 (UInt8.toNat_inj.1 (Int.ofNat_inj.1 e))
            clear hR hbl hc ha hX hF
            generalize (⟨s.toArray⟩ : ByteArray) = S1 at *
            generalize (⟨o.toArray⟩ : ByteArray) = O1 at *
            generalize (⟨a.toArray⟩ : ByteArray) = A1 at *
            generalize hB1 : (⟨(x :: b2).toArray⟩ : ByteArray) = B1 at *
            have HB1 := Hid.mk' hB1
            clear hB1
            go_wp2_with fail
            refine HCs.out.mono ?_
            rintro e w1 ⟨rfl, n, rfl⟩
            have HB2 := Hid.mk' (below_drewN HB.out n)
            go_wp2
            go_roundg (x :: b2).length
            case measure => simp only [List.length_cons]; omega
            case rel => exact ⟨x :: b2, o ++ a ++ [13], Nat.le_refl _, by simp only [List.length_append, List.length_cons, List.length_nil]; omega, by rw [HB1.out], by rw [HY.out], HR2.out, HB2.out⟩
  | true =>
      have hsz := size_mk l
      have HJ : Hid ((⟨#[13]⟩ ++ ⟨l.toArray⟩ : ByteArray) = ⟨(flush true ++ l).toArray⟩) := bytes_append [13] l
      rw [← HJ.out] at HS
      generalize (⟨l.toArray⟩ : ByteArray) = S at *
      generalize rd true l = R at *
      go_enter Tryd.func6, Tryd.ntmps6
      go_wp2_with fail
      go_loopg [1, 8] 1048577 (fun g s1 s8 wr => LState w 1048577 R g s1 s8 wr)
      case atStart => exact HS.out
      case round =>
        obtain ⟨s, o, hg, hN, rfl, rfl, hR, hbl⟩ := hrel
        clear HS
        have HB := Hid.mk' hbl
        have hsp := cut_spec s
        have HCs := Hid.mk' (HC.out wr hbl s (by omega))
        have hzo := size_mk o
        rcases hsp with ⟨hc, hns, _⟩ | ⟨a, b, hs, ha, hc, _⟩
        · rw [hc] at HCs
          rw [rd_plain s hns] at hR
          have HF := Hid.mk' (bytes_append o s)
          have hzs := size_mk s
          have HR2 := Hid.mk' hR
          clear hR hbl hc hns
          generalize (⟨s.toArray⟩ : ByteArray) = S1 at *
          generalize (⟨o.toArray⟩ : ByteArray) = O1 at *
          go_wp2_with fail
          refine HCs.out.mono ?_
          rintro e w1 ⟨rfl, n, rfl⟩
          go_wp2
          refine bodyPost_ret (v := .tuple #[.bool false, .string (O1 ++ S1)]) (by simp [results, Tryd.results6, go_sem]) rfl ⟨?_, below_drewN HB.out n⟩
          rw [HR2.out, HF.out]
        have hsl : s.length = a.length + 1 + b.length := by rw [hs]; simp; omega
        rw [hc] at HCs
        rw [hs, rd_first a b ha] at hR
        clear hs
        have hza := size_mk a
        have hzb := size_mk b
        cases b with
        | nil =>
          have HF := Hid.mk' (bytes_append o a)
          have HR2 := Hid.mk' hR
          clear hR hbl hc ha
          generalize (⟨s.toArray⟩ : ByteArray) = S1 at *
          generalize (⟨o.toArray⟩ : ByteArray) = O1 at *
          generalize (⟨a.toArray⟩ : ByteArray) = A1 at *
          go_wp2_with fail
          refine HCs.out.mono ?_
          rintro e w1 ⟨rfl, n, rfl⟩
          go_wp2
          refine bodyPost_ret (v := .tuple #[.bool true, .string (O1 ++ A1)]) (by simp [results, Tryd.results6, go_sem]) rfl ⟨?_, below_drewN HB.out n⟩
          rw [HR2.out, HF.out, rd, List.append_nil]
        | cons x b2 =>
          have hbe := str_empty (L := x :: b2) (by simp)
          have hx0 := get_mk (x :: b2) 0 (by simp) (by rw [hzb]; simp)
          have xk := rest_list (x :: b2) 1
          rw [show (x :: b2).drop 1 = b2 from rfl] at xk
          rw [List.length_cons] at hzb hsl
          rw [show (x :: b2)[0]'(by simp) = x from rfl] at hx0
          obtain ⟨X, hX⟩ : ∃ X, X = (⟨b2.toArray⟩ : ByteArray) := ⟨_, rfl⟩
          rw [← hX] at xk
          have HX := Hid.mk' hX.symm
          have hF := bytes_append o a
          by_cases h10 : x = 10
          · subst h10
            rw [rd_lf] at hR
            have HR2 : Hid (R = ((rd false b2).1, o ++ a ++ [10] ++ (rd false b2).2)) := by
              show _ = _
              rw [hR]; simp
            have HY : Hid ((⟨(o ++ a ++ [10]).toArray⟩ : ByteArray) = ⟨o.toArray⟩ ++ ⟨a.toArray⟩ ++ ⟨#[10]⟩) := by
              show _ = _
              rw [hF]; exact (bytes_append _ _).symm
            clear hR hbl hc ha hX hF
            generalize (⟨s.toArray⟩ : ByteArray) = S1 at *
            generalize (⟨o.toArray⟩ : ByteArray) = O1 at *
            generalize (⟨a.toArray⟩ : ByteArray) = A1 at *
            generalize hB1 : (⟨(10 :: b2).toArray⟩ : ByteArray) = B1 at *
            have HB1 := Hid.mk' hB1
            clear hB1
            go_wp2_with fail
            refine HCs.out.mono ?_
            rintro e w1 ⟨rfl, n, rfl⟩
            have HB2 := Hid.mk' (below_drewN HB.out n).drew
            go_wp2_with fail
            go_region
            all_goals
              go_wp2
              go_roundg b2.length
              case measure => omega
              case rel => exact ⟨b2, o ++ a ++ [10], Nat.le_refl _, by simp only [List.length_append, List.length_singleton]; omega, by rw [HX.out, ← xk, hzb], by rw [HY.out], HR2.out, HB2.out⟩
          by_cases h00 : x = 0
          · subst h00
            rw [rd_nul] at hR
            have HR2 : Hid (R = ((rd false b2).1, o ++ a ++ [13] ++ (rd false b2).2)) := by
              show _ = _
              rw [hR]; simp
            have HY : Hid ((⟨(o ++ a ++ [13]).toArray⟩ : ByteArray) = ⟨o.toArray⟩ ++ ⟨a.toArray⟩ ++ ⟨#[13]⟩) := by
              show _ = _
              rw [hF]; exact (bytes_append _ _).symm
            clear hR hbl hc ha hX hF
            generalize (⟨s.toArray⟩ : ByteArray) = S1 at *
            generalize (⟨o.toArray⟩ : ByteArray) = O1 at *
            generalize (⟨a.toArray⟩ : ByteArray) = A1 at *
            generalize hB1 : (⟨(0 :: b2).toArray⟩ : ByteArray) = B1 at *
            have HB1 := Hid.mk' hB1
            clear hB1
            go_wp2_with fail
            refine HCs.out.mono ?_
            rintro e w1 ⟨rfl, n, rfl⟩
            have HB2 := Hid.mk' (below_drewN HB.out n).drew
            go_wp2_with fail
            go_region
            all_goals
              go_wp2
              go_roundg b2.length
              case measure => omega
              case rel => exact ⟨b2, o ++ a ++ [13], Nat.le_refl _, by simp only [List.length_append, List.length_singleton]; omega, by rw [HX.out, ← xk, hzb], by rw [HY.out], HR2.out, HB2.out⟩
          · rw [rd_other x b2 h10 h00] at hR
            have HR2 : Hid (R = ((rd false (x :: b2)).1, o ++ a ++ [13] ++ (rd false (x :: b2)).2)) := by
              show _ = _
              rw [hR]; simp
            have HY : Hid ((⟨(o ++ a ++ [13]).toArray⟩ : ByteArray) = ⟨o.toArray⟩ ++ ⟨a.toArray⟩ ++ ⟨#[13]⟩) := by
              show _ = _
              rw [hF]; exact (bytes_append _ _).symm
            have hn0 : (x.toNat : Int) ≠ 0 := fun e => h00 (UInt8.toNat_inj.1 (Int.ofNat_inj.1 e))
            have hn10 : (x.toNat : Int) ≠ 10 := fun e => h10 (UInt8.toNat_inj.1 (Int.ofNat_inj.1 e))
            clear hR hbl hc ha hX hF
            generalize (⟨s.toArray⟩ : ByteArray) = S1 at *
            generalize (⟨o.toArray⟩ : ByteArray) = O1 at *
            generalize (⟨a.toArray⟩ : ByteArray) = A1 at *
            generalize hB1 : (⟨(x :: b2).toArray⟩ : ByteArray) = B1 at *
            have HB1 := Hid.mk' hB1
            clear hB1
            go_wp2_with fail
            refine HCs.out.mono ?_
            rintro e w1 ⟨rfl, n, rfl⟩
            have HB2 := Hid.mk' (below_drewN HB.out n)
            go_wp2
            go_roundg (x :: b2).length
            case measure => simp only [List.length_cons]; omega
            case rel => exact ⟨x :: b2, o ++ a ++ [13], Nat.le_refl _, by simp only [List.length_append, List.length_cons, List.length_nil]; omega, by rw [HB1.out], by rw [HY.out], HR2.out, HB2.out⟩

set_option maxHeartbeats 4000000 in
theorem LineIn_any (cr : Bool) (l : List UInt8) (binary : Bool) (m : Int) (w : World) (hl : l.length ≤ 1048576) (hm : w.cell? ⟨0, 0, none⟩ = some (.int .i64 m)) :
    Calls Tryd.prog 6 #[.bool cr, .string ⟨l.toArray⟩, .bool binary] w fun e w' => e = .returned (.tuple #[.bool (rdB binary cr l).1, .string ⟨(rdB binary cr l).2.toArray⟩]) ∧ Below w.heap.size w w' := by
  cases binary with
  | false => exact LineIn_loop cr l m w hl hm
  | true =>
    rw [show rdB true cr l = (false, flush cr ++ l) from rfl]
    have hsz := size_mk l
    clear hm
    cases cr with
    | false =>
      rw [show flush false ++ l = l from rfl]
      generalize (⟨l.toArray⟩ : ByteArray) = S at *
      go_enter Tryd.func6, Tryd.ntmps6
      go_wp2
      go_ret2
      exact ⟨rfl, Below.refl _ _⟩
    | true =>
      have HJ : Hid ((⟨#[13]⟩ ++ ⟨l.toArray⟩ : ByteArray) = ⟨(flush true ++ l).toArray⟩) := bytes_append [13] l
      generalize (⟨(flush true ++ l).toArray⟩ : ByteArray) = T at *
      generalize (⟨l.toArray⟩ : ByteArray) = S at *
      go_enter Tryd.func6, Tryd.ntmps6
      go_wp2
      go_ret2
      exact ⟨by rw [← HJ.out]; rfl, Below.refl _ _⟩
end Go.Proofs.YtodljopbgppopaaDoor.V
