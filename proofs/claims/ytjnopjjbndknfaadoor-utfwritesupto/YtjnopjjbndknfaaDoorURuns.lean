/-
  Contract of farref.RunesBytes: the bytes of runes, in order; conditions: at most 1073741824 numbers.
-/
import Derived.Test.YtjnopjjbndknfaaDoorUByt
namespace Go.Proofs.YtjnopjjbndknfaaDoor.U
open Go.RowKit Go.Lib Go.Proofs.YtjnopjjbndknfaaDoor

theorem fix_yes {c : Int} (h : runeZ c = true) : ((fixR c : Nat) : Int) = c := by
  rw [← fixZ_eq]; unfold fixZ; rw [if_pos h]
theorem fix_no {c : Int} (h : runeZ c = false) : fixR c = 65533 := by
  have : ((fixR c : Nat) : Int) = 65533 := by rw [← fixZ_eq]; unfold fixZ; rw [if_neg (by rw [h]; decide)]
  omega

def NState (w : World) (l : List Int) (s3 s8 : Value) (wr : World) : Prop :=
  ∃ k : Nat, k ≤ l.length ∧ s8 = .int .i64 (k : Int) ∧ s3 = .string ⟨(encAll (l.take k)).toArray⟩ ∧ Below w.heap.size w wr

set_option maxHeartbeats 8000000 in
set_option maxRecDepth 100000 in
theorem RunesBytes_some (l : List Int) (b off cap : Nat) (w : World) (hcl : ∀ j (h : j < l.length), w.cell? ⟨b, off + j, none⟩ = some (.int .i64 l[j])) (hb : b < w.heap.size) (hl : l.length ≤ 1073741824) :
    Calls Tryd.prog 24 #[.slice (some ⟨b, off, none⟩) l.length cap] w fun e w' => e = .returned (.string ⟨(encAll l).toArray⟩) ∧ Below w.heap.size w w' := by
  have HS : Hid (NState w l (.string ⟨#[]⟩) (.int .i64 0) w) := ⟨0, Nat.zero_le _, rfl, rfl, Below.refl _ _⟩
  have HC := Hid.mk' hcl
  clear hcl
  go_enter Tryd.func24, Tryd.ntmps24
  go_wp2_with fail
  go_loopw [3, 8] (fun s3 s8 wr => NState w l s3 s8 wr) (fun _ i _ => l.length - (RowKit.intOf i).toNat)
  case atStart => exact HS.out
  case round =>
    obtain ⟨k, hk, rfl, rfl, hbl⟩ := hrel
    clear HS
    have HB := Hid.mk' hbl
    have hswr := hbl.size
    by_cases hlt : k < l.length
    · have hcell : wr.cell? ⟨b, off + k, none⟩ = some (.int .i64 l[k]) := (hbl.cell (p := ⟨b, off + k, none⟩) hb).trans (HC.out k hlt)
      have HRN := Hid.mk' (Rune_any l[k] wr)
      have HRB := Hid.mk' (RuneBytes_any (fixR l[k]) wr (fixR_rune _))
      rw [← enc_nat] at HRB
      have hap := bytes_append (encAll (l.take k)) (encodeRune l[k])
      rw [← encAll_snoc l k hlt] at hap
      have h1 : (⟨(encAll (l.take k)).toArray⟩ : ByteArray).size ≤ 4294967296 := by
        have := encAll_take l k
        simp only [ByteArray.size, List.size_toArray]; omega
      have h2 : (⟨(encodeRune l[k]).toArray⟩ : ByteArray).size ≤ 4 := by
        have := encodeRune_len l[k]
        simpa [ByteArray.size] using this
      have HES : Hid (∃ SE, SE = (⟨(encAll (l.take (k + 1))).toArray⟩ : ByteArray)) := ⟨_, rfl⟩
      obtain ⟨SE, hSE⟩ := HES.out
      rw [← hSE] at hap
      have HSE := Hid.mk' hSE
      clear hbl hSE HES
      cases hr : runeZ l[k] with
      | true =>
        rw [hr] at HRN
        rw [fix_yes hr] at HRB
        clear hr
        generalize (⟨(encodeRune l[k]).toArray⟩ : ByteArray) = SR at *
        generalize (⟨(encAll (l.take k)).toArray⟩ : ByteArray) = SA at *
        generalize l[k] = ck at *
        go_wp2_with fail
        refine HRN.out.mono ?_
        rintro e w4 ⟨rfl, rfl⟩
        go_wp2_with fail
        refine HRB.out.mono ?_
        rintro e w5 ⟨rfl, hb5⟩
        have HB5 : Hid (Below w.heap.size w w5) := HB.out.trans (hb5.mono hswr)
        clear hb5
        go_wp2
        go_roundw
        case rel => exact ⟨k + 1, by omega, by go_num, by rw [HSE.out], HB5.out⟩
        case measure => simp [RowKit.intOf]; omega
      | false =>
        rw [hr] at HRN
        rw [fix_no hr] at HRB
        clear hr
        generalize (⟨(encodeRune l[k]).toArray⟩ : ByteArray) = SR at *
        generalize (⟨(encAll (l.take k)).toArray⟩ : ByteArray) = SA at *
        generalize l[k] = ck at *
        go_wp2_with fail
        refine HRN.out.mono ?_
        rintro e w4 ⟨rfl, rfl⟩
        go_wp2_with fail
        refine HRB.out.mono ?_
        rintro e w5 ⟨rfl, hb5⟩
        have HB5 : Hid (Below w.heap.size w w5) := HB.out.trans (hb5.mono hswr)
        clear hb5
        go_wp2
        go_roundw
        case rel => exact ⟨k + 1, by omega, by go_num, by rw [HSE.out], HB5.out⟩
        case measure => simp [RowKit.intOf]; omega
    · obtain rfl : k = l.length := by omega
      have HEQ : Hid ((⟨(encAll (l.take l.length)).toArray⟩ : ByteArray) = ⟨(encAll l).toArray⟩) := by
        show _ = _
        rw [List.take_length]
      generalize (⟨(encAll (l.take l.length)).toArray⟩ : ByteArray) = SA at *
      go_wp2
      go_ret
      exact ⟨by rw [← HEQ.out] <;> rfl, HB.out⟩

set_option maxHeartbeats 4000000 in
theorem RunesBytes_none (a : Option Addr) (cap : Nat) (w : World) :
    Calls Tryd.prog 24 #[.slice a 0 cap] w fun e w' => e = .returned (.string ⟨#[]⟩) ∧ Below w.heap.size w w' := by
  go_enter Tryd.func24, Tryd.ntmps24
  go_wp2_with fail
  go_loopw [3, 8] (fun s3 s8 wr => s3 = .string ⟨#[]⟩ ∧ s8 = .int .i64 0 ∧ wr = w) (fun _ _ _ => 0)
  case atStart => exact ⟨rfl, rfl, rfl⟩
  case round =>
    obtain ⟨rfl, rfl, hw⟩ := hrel
    subst hw
    go_wp2
    go_ret
    exact ⟨rfl, Below.refl _ _⟩

theorem RunesBytes_any (v : Value) (l : List Int) (w : World) (hv : RdI w v l) (hl : l.length ≤ 1073741824) :
    Calls Tryd.prog 24 #[v] w fun e w' => e = .returned (.string ⟨(encAll l).toArray⟩) ∧ Below w.heap.size w w' := by
  obtain ⟨a, cap, rfl, hc, hr⟩ := hv
  rcases hr with rfl | ⟨b, off, rfl, hT, hb⟩
  · exact RunesBytes_none a cap w
  · exact RunesBytes_some l b off cap w hT hb hl
end Go.Proofs.YtjnopjjbndknfaaDoor.U
