/-
  The walk of farkeep.PageBack: it returns true; conditions: the table page.lineSigns holds what its initialiser lays; at most 2^44 bytes.
-/
import Derived.Test.YtmniifmgliklnaaDoorGWrite
namespace Go.Proofs.YtmniifmgliklnaaDoor.G
open Go.RowKit Go.Lib Go.Proofs.YtmniifmgliklnaaDoor

theorem isP_no {p : Int} (h : isP p = false) : p < 1 ∨ 4 < p := by
  have := of_decide_eq_false h
  omega
theorem back_get {p : Int} (hp : isP p = true) (l : List UInt8) (k : Nat) (hk : k < l.length) (hb : l[k].toNat < sz p) (h2 : k < (wrP p (rdP p l)).length) : (wrP p (rdP p l))[k]'h2 = l[k] := by
  simp only [wrP, rdP, List.getElem_map]
  have e := wb_nat (byF_sg hp hb)
  exact UInt8.toNat_inj.1 e
theorem back_lost {p : Int} (hp : isP p = true) (l : List UInt8) (k : Nat) (hk : k < l.length) : lost p (rdP p (l.take (k + 1))) = lost p (rdP p (l.take k)) + (if sz p ≤ l[k].toNat then 1 else 0) := by
  have e : rdP p (l.take (k + 1)) = rdP p (l.take k) ++ [sg p l[k].toNat] := map_snoc _ l k hk
  rw [e]
  unfold lost
  rw [List.filter_append, List.length_append]
  congr 1
  by_cases hb : sz p ≤ l[k].toNat
  · rw [if_pos hb, sg_bad hb]
    simp [byF_bad hp]
  · rw [if_neg hb]
    simp [byF_sg hp (show l[k].toNat < sz p by omega)]

def BState (w : World) (p : Int) (l : List UInt8) (s10 s58 : Value) (wr : World) : Prop :=
  ∃ k : Nat, k ≤ l.length ∧ s58 = .int .i64 (k : Int) ∧ s10 = .int .i64 (lost p (rdP p (l.take k)) : Int) ∧ Below w.heap.size w wr

set_option maxHeartbeats 8000000 in
set_option maxRecDepth 100000 in
theorem PageBack_any (p : Int) (l : List UInt8) (w : World) (hT : Tab w) (hl : l.length ≤ 17592186044416) :
    Calls Tryd.prog 5 #[.int .i64 p, .string ⟨l.toArray⟩] w fun e w' => e = .returned (.bool true) ∧ Below w.heap.size w w' := by
  have HR := Hid.mk' (Read_any p l w hT hl)
  have HL : Hid (∀ w1, Below w.heap.size w w1 → Calls Tryd.prog 17 #[] w1 fun e w' => e = .returned (.bool true) ∧ w' = w1) := fun w1 hb => lives_any w1 (hT.below hb)
  cases h : isP p with
  | false =>
    rw [h, if_neg (by decide), if_neg (by decide)] at HR
    have hc := isP_no h
    generalize (⟨l.toArray⟩ : ByteArray) = S at *
    clear hT h
    rcases hc with hc | hc
    · go_enter Tryd.func5, Tryd.ntmps5
      go_wp2_with fail
      refine HR.out.mono ?_
      rintro e w1 ⟨v, rfl, _, hb1⟩
      have HB := Hid.mk' hb1
      clear hb1
      go_wp2_with fail
      refine (HL.out w1 HB.out).mono ?_
      rintro e w2 ⟨rfl, rfl⟩
      go_wp2_with fail
      refine (HL.out _ HB.out).mono ?_
      rintro e w2 ⟨rfl, rfl⟩
      go_wp2
      go_ret
      exact ⟨rfl, HB.out⟩
    · have hc1 : ¬ p < 1 := by omega
      go_enter Tryd.func5, Tryd.ntmps5
      go_wp2_with fail
      refine HR.out.mono ?_
      rintro e w1 ⟨v, rfl, _, hb1⟩
      have HB := Hid.mk' hb1
      clear hb1
      go_wp2_with fail
      refine (HL.out w1 HB.out).mono ?_
      rintro e w2 ⟨rfl, rfl⟩
      go_wp2_with fail
      refine (HL.out _ HB.out).mono ?_
      rintro e w2 ⟨rfl, rfl⟩
      go_wp2
      go_ret
      exact ⟨rfl, HB.out⟩
  | true =>
    rw [h, if_pos rfl, if_pos rfl] at HR
    have HW : Hid (∀ w1 v, Below w.heap.size w w1 → RdI w1 v (rdP p l) → Calls Tryd.prog 14 #[.int .i64 p, v] w1 fun e w' => e = .returned (.tuple #[.string ⟨(wrP p (rdP p l)).toArray⟩, .int .i64 (lost p (rdP p l) : Int), .int .i64 0]) ∧ Below w1.heap.size w1 w') :=
      fun w1 v hb hv => Write_any p v (rdP p l) w1 h (hT.below hb) hv (by rw [rdP_length]; exact hl)
    have hn := rdP_length p l
    have hsz := size_mk l
    have hst := size_mk (wrP p (rdP p l))
    rw [wrP_length, hn] at hst
    have hlo := lost_le p (rdP p l)
    rw [hn] at hlo
    have HG : Hid (∀ k (h1 : k < l.length) (h2 : k < (⟨(wrP p (rdP p l)).toArray⟩ : ByteArray).size), l[k].toNat < sz p → (⟨(wrP p (rdP p l)).toArray⟩ : ByteArray)[k]'h2 = l[k]) := fun k h1 h2 hb => back_get h l k h1 hb (by rw [wrP_length, hn]; exact h1)
    have HGS := Hid.mk' (get_mk l)
    have HLO := Hid.mk' (back_lost h l)
    have HS0 : Hid (∀ w3, Below w.heap.size w w3 → BState w p l (.int .i64 0) (.int .i64 0) w3) := fun w3 hb => ⟨0, Nat.zero_le _, rfl, rfl, hb⟩
    have HLE : Hid (∀ k, lost p (rdP p (l.take k)) ≤ k) := fun k => Nat.le_trans (lost_le _ _) (by rw [rdP_length]; exact List.length_take_le k l)
    generalize (⟨l.toArray⟩ : ByteArray) = S at *
    generalize (⟨(wrP p (rdP p l)).toArray⟩ : ByteArray) = T at *
    clear hT h
    go_enter Tryd.func5, Tryd.ntmps5
    go_wp2_with fail
    refine HR.out.mono ?_
    rintro e w1 ⟨v, rfl, ho, hb1⟩
    have HB1 := Hid.mk' hb1
    have hs1 := hb1.size
    have HRD := Hid.mk' (RdI.own ho)
    obtain ⟨a, cap, rfl, hcap, _⟩ := RdI.own ho
    have HW1 := Hid.mk' (HW.out w1 _ hb1 HRD.out)
    clear hb1 ho HRD
    rw [hn] at HW1 hcap ⊢
    go_wp2_with fail
    refine (HL.out w1 HB1.out).mono ?_
    rintro e w2 ⟨rfl, rfl⟩
    go_wp2_with fail
    refine HW1.out.mono ?_
    rintro e w3 ⟨rfl, hb3⟩
    have HB3 : Hid (Below w.heap.size w w3) := HB1.out.trans (hb3.mono hs1)
    have HS1 := Hid.mk' (HS0.out w3 HB3.out)
    clear hb3 HB1 HW1 HS0 HW HL HR
    go_wp2_with fail
    go_loopw [10, 58] (fun s10 s58 wr => BState w p l s10 s58 wr) (fun _ i _ => l.length - (RowKit.intOf i).toNat)
    case atStart => exact HS1.out
    case round =>
      obtain ⟨k, hk, rfl, rfl, hbl⟩ := hrel
      clear HS1 HB3
      have HB := Hid.mk' hbl
      clear hbl
      by_cases hlt : k < l.length
      · have hsb := HGS.out k hlt (by omega)
        have hsb2 : ((S[k]'(by omega)).toNat : Int) = (l[k].toNat : Int) := by rw [hsb]
        have HLK := Hid.mk' (HLO.out k hlt)
        have hle := HLE.out k
        have hgt := HG.out k hlt (by omega)
        have hbn := l[k].toNat_lt
        clear hsb HGS HLO HLE HG
        by_cases hbz : sz p ≤ l[k].toNat
        · rw [if_pos hbz] at HLK
          clear hgt
          have hp2 : p ≠ 2 := fun e => by
            subst e
            have : sz 2 = 256 := rfl
            omega
          have hsp : sz p = 128 := if_neg hp2
          have hy : (127 : Int) < (l[k].toNat : Int) := by omega
          generalize (l[k].toNat : Int) = y at *
          generalize lost p (rdP p (l.take k)) = n at *
          clear hbz hsp hbn
          go_wp2
          go_roundw
          case rel => exact ⟨k + 1, by omega, by go_num, by rw [HLK.out]; go_num, HB.out⟩
          case measure => simp [RowKit.intOf]; omega
        · rw [if_neg hbz] at HLK
          have hgt2 : ((T[k]'(by omega)).toNat : Int) = (l[k].toNat : Int) := by rw [hgt (by omega)]
          clear hgt
          by_cases hy : (127 : Int) < (l[k].toNat : Int)
          · have hp2 : p = 2 := by
              by_cases e : p = 2
              · exact e
              · have hsp : sz p = 128 := if_neg e
                omega
            subst hp2
            clear hbz hbn
            generalize (l[k].toNat : Int) = y at *
            generalize lost 2 (rdP 2 (l.take k)) = n at *
            go_wp2_with fail
            go_quiet (fail)
            go_wp2
            go_roundw
            case rel => exact ⟨k + 1, by omega, by go_num, by rw [HLK.out]; go_num, below_drewN HB.out _⟩
            case measure => simp [RowKit.intOf]; omega
          · clear hbz hbn
            generalize (l[k].toNat : Int) = y at *
            generalize lost p (rdP p (l.take k)) = n at *
            go_wp2_with fail
            go_quiet (fail)
            go_wp2
            go_roundw
            case rel => exact ⟨k + 1, by omega, by go_num, by rw [HLK.out]; go_num, below_drewN HB.out _⟩
            case measure => simp [RowKit.intOf]; omega
      · obtain rfl : k = l.length := by omega
        rw [List.take_length]
        generalize lost p (rdP p l) = n at *
        go_wp2
        go_ret
        exact ⟨rfl, HB.out⟩
end Go.Proofs.YtmniifmgliklnaaDoor.G
