/-
  Contract of slc.Check; condition: 38 bytes.
-/
import Derived.Test.YtomgnnbcaficaaaDoorKCells
namespace Go.Proofs.YtomgnnbcaficaaaDoor.K
open Go.RowKit Go.Proofs.YtomgnnbcaficaaaDoor Go.Proofs.YtomgnnbcaficaaaDoor.W Go.Proofs.YtomgnnbcaficaaaDoor.Q

theorem right_no {k : List UInt8} (h : ¬ (lv k 0 = 0 ∧ ch k 0 = 0 ∧ ∀ f, f < 19 → lv k f ≤ 2)) : chk k = 4 := by
  unfold chk
  rw [if_neg (fun hr => h ((right_iff k).1 hr))]
theorem right_yes {k : List UInt8} (h : lv k 0 = 0 ∧ ch k 0 = 0 ∧ ∀ f, f < 19 → lv k f ≤ 2) : chk k = 0 := by
  unfold chk
  rw [if_pos ((right_iff k).2 h)]
theorem le2_iff (x : UInt8) : x ≤ 2 ↔ (x.toNat : Int) ≤ 2 := by
  rw [UInt8.le_iff_toNat_le]
  have : (2 : UInt8).toNat = 2 := rfl
  omega
theorem eq0_iff (x : UInt8) : x = 0 ↔ (x.toNat : Int) = 0 := by
  rw [← UInt8.toNat_inj]
  have : (0 : UInt8).toNat = 0 := rfl
  omega

theorem run_index_row (M : List Value) (n : Nat) (x : Int) (hn : n < 19) (h : M[n]? = some (.int .u8 x)) (w : World) :
    (Instr.index 24 (.agg M.toArray) (.int .i64 (n : Int))).run Tryd.prog w = .ok (.int .u8 x) w := by
  obtain ⟨i, hi, h0, h1, h2⟩ := info_parts infoByte
  have hb : (0 : Int) ≤ (n : Int) ∧ (n : Int) < ((19 : Nat) : Int) := by omega
  unfold Instr.index
  simp [asIntOf, run_underlying Tryd.underlying24, run_underlying Tryd.underlying5, sizeOf, typeInfo, hi, h1, part, isAgg, hb, h]
  omega

set_option maxHeartbeats 4000000 in
set_option maxRecDepth 100000 in
theorem Check_any (k : List UInt8) (hk : k.length = 38) (w : World) :
    Calls Tryd.prog 36 #[KV k] w fun e w' => e = .returned (.int .i64 (chk k)) ∧ Below w.heap.size w w' := by
  have HY : Hid (∀ f, f < 19 → 2 < ((lv k f).toNat : Int) → chk k = 4) := fun f hf h => right_no fun hh => by have := (le2_iff _).1 (hh.2.2 f hf); omega
  have H0 : Hid (((lv k 0).toNat : Int) ≠ 0 → chk k = 4) := fun h => right_no fun hh => h ((eq0_iff _).1 hh.1)
  have H1 : Hid (((ch k 0).toNat : Int) ≠ 0 → chk k = 4) := fun h => right_no fun hh => h ((eq0_iff _).1 hh.2.1)
  have HN : Hid (((lv k 0).toNat : Int) = 0 → ((ch k 0).toNat : Int) = 0 → (∀ f, f < 19 → ((lv k f).toNat : Int) ≤ 2) → chk k = 0) := fun h0 h1 h => right_yes ⟨(eq0_iff _).2 h0, (eq0_iff _).2 h1, fun f hf => (le2_iff _).2 (h f hf)⟩
  generalize chk k = R at *
  have HL : Hid ((bcells k).length = 38) := by rw [bcells_length, hk]; rfl
  have c0 := bcells_lv k hk 0 (by omega)
  have c1 := bcells_ch k hk 0 (by omega)
  have HC : Hid (∀ f, f < 19 → (((bcells k).drop 0).take 19)[f]? = some (.int .u8 ((lv k f).toNat : Int))) := fun f hf => by
    rw [List.drop_zero, List.getElem?_take, if_pos hf]
    exact bcells_lv k hk f hf
  have HG : Hid ((((bcells k).drop 0).take 19).length = 19) := by rw [List.length_take, List.drop_zero, HL.out]; rfl
  unfold KV
  generalize bcells k = l at *
  generalize hx0 : ((lv k 0).toNat : Int) = x0 at *
  generalize hx1 : ((ch k 0).toNat : Int) = x1 at *
  by_cases h0 : x0 = 0
  · by_cases h1 : x1 = 0
    · go_enter Tryd.func36, Tryd.ntmps36
      go_wp2_with (refine wpList_box l 26 rfl _ rfl rfl ?_)
      intro w1 m1
      have e0 := m1.box.cell c0
      have e1 := m1.box.cell c1
      have b1 := m1.box
      have HB := Hid.mk' (m1.below _ _ (Nat.le_refl _) (Below.refl _ w))
      clear m1
      go_wp2_with (refine wpList_load_part 24 26 l w.heap.size 0 19 _ Tryd.underlying24 rfl infoL b1 (by rw [HL.out]; omega) rfl _ rfl rfl ?_)
      rw [List.drop_zero] at HC HG
      generalize l.take 19 = M at *
      go_wp2_with fail
      go_loopw [17] (fun s wr => ∃ n : Nat, n ≤ 19 ∧ s = .int .i64 (n : Int) ∧ (∀ f, f < n → ((lv k f).toNat : Int) ≤ 2) ∧ wr = w1) (fun i _ => 19 - (RowKit.intOf i).toNat)
      case atStart => exact ⟨0, Nat.zero_le _, rfl, fun a h => absurd h (Nat.not_lt_zero a), rfl⟩
      case round =>
        obtain ⟨n, hn, rfl, hno, rfl⟩ := hrel
        have HO := Hid.mk' hno
        clear hno
        by_cases hlt : n < 19
        · have n0 : (0 : Int) ≤ (n : Int) := by omega
          have n1 : (n : Int) < 19 := by omega
          have hc := run_index_row M n _ hlt (HC.out n hlt) wr
          have HR := Hid.mk' (HY.out n hlt)
          have HS : Hid (((lv k n).toNat : Int) ≤ 2 → ∀ f, f < n + 1 → ((lv k f).toNat : Int) ≤ 2) := fun h f hf => by
            by_cases e : f = n
            · subst e; exact h
            · exact HO.out f (by omega)
          generalize ((lv k n).toNat : Int) = x at *
          by_cases h2 : x ≤ 2
          · have HS2 := Hid.mk' (HS.out h2)
            clear HS HR HY HC
            go_wp2
            go_roundw
            case rel => exact ⟨n + 1, by omega, by go_num, HS2.out, trivial⟩
            case measure => simp [intOf]; omega
          · have HR2 := Hid.mk' (HR.out (by omega))
            clear HS HR HY HC
            go_wp2
            go_ret
            rw [HR2.out]
            exact ⟨rfl, HB.out⟩
        · obtain rfl : n = 19 := by omega
          have HR := HN.out h0 h1 HO.out
          subst HR
          go_wp2
          go_ret
          exact ⟨rfl, HB.out⟩
    · have HR := H1.out h1
      subst HR
      go_enter Tryd.func36, Tryd.ntmps36
      go_wp2_with (refine wpList_box l 26 rfl _ rfl rfl ?_)
      intro w1 m1
      have e0 := m1.box.cell c0
      have e1 := m1.box.cell c1
      have HB := Hid.mk' (m1.below _ _ (Nat.le_refl _) (Below.refl _ w))
      clear m1
      go_wp2
      go_ret
      exact ⟨rfl, HB.out⟩
  · have HR := H0.out h0
    subst HR
    go_enter Tryd.func36, Tryd.ntmps36
    go_wp2_with (refine wpList_box l 26 rfl _ rfl rfl ?_)
    intro w1 m1
    have e0 := m1.box.cell c0
    have e1 := m1.box.cell c1
    have HB := Hid.mk' (m1.below _ _ (Nat.le_refl _) (Below.refl _ w))
    clear m1
    go_wp2
    go_ret
    exact ⟨rfl, HB.out⟩
end Go.Proofs.YtomgnnbcaficaaaDoor.K
