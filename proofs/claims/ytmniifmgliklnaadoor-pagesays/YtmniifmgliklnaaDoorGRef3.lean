/-
  Contract of farref.PageWrite: the document's answer is the plain one; conditions: at most 1073741824 runes.
-/
import Derived.Test.YtmniifmgliklnaaDoorGRef2
namespace Go.Proofs.YtmniifmgliklnaaDoor.G
open Go.RowKit Go.Lib Go.Proofs.YtmniifmgliklnaaDoor

def XState (w : World) (p : Int) (l : List Int) (s7 s8 s17 : Value) (wr : World) : Prop :=
  ∃ k : Nat, k ≤ l.length ∧ s17 = .int .i64 (k : Int) ∧ s8 = .int .i64 (lost p (l.take k) : Int) ∧ s7 = .string ⟨(wrP p (l.take k)).toArray⟩ ∧ Below w.heap.size w wr

set_option maxHeartbeats 4000000 in
set_option maxRecDepth 100000 in
theorem PageWrite_bad (p : Int) (a : Option Addr) (n c : Nat) (w : World) (h : isP p = false) :
    Calls Tryd.prog 15 #[.int .i64 p, .slice a n c] w fun e w' => e = .returned (.tuple #[.string ⟨#[]⟩, .int .i64 0, .int .i64 6]) ∧ w' = w := by
  have HP := Hid.mk' (Between_any p w)
  rw [h] at HP
  go_enter Tryd.func15, Tryd.ntmps15
  go_wp2_with fail
  refine HP.out.mono ?_
  rintro e w1 ⟨rfl, rfl⟩
  go_wp2
  exact bodyPost_ret (v := .tuple #[.string ⟨#[]⟩, .int .i64 0, .int .i64 6]) (by simp [results, Tryd.results15, go_sem]) rfl ⟨rfl, rfl⟩

set_option maxHeartbeats 4000000 in
set_option maxRecDepth 100000 in
theorem PageWrite_any (p : Int) (v : Value) (l : List Int) (w : World) (h : isP p = true) (hv : RdI w v l) (hl : l.length ≤ 1073741824) :
    Calls Tryd.prog 15 #[.int .i64 p, v] w fun e w' => e = .returned (.tuple #[.string ⟨(wrP p l).toArray⟩, .int .i64 (lost p l : Int), .int .i64 0]) ∧ Below w.heap.size w w' := by
  have HP := Hid.mk' (Between_any p w)
  rw [h] at HP
  obtain ⟨a, cap, rfl, hc, hr⟩ := hv
  have HY : Hid (∀ wr r, Calls Tryd.prog 11 #[.int .i64 p, .int .i64 r] wr fun e w' => e = .returned (.int .i64 (num (byF p r))) ∧ Below wr.heap.size wr w') := fun wr r => PageByte_any p r wr h
  have HBY := Hid.mk' Bytes_one
  have HS0 : Hid (XState w p l (.string ⟨#[]⟩) (.int .i64 0) (.int .i64 0) w) := ⟨0, Nat.zero_le _, rfl, rfl, rfl, Below.refl _ _⟩
  clear h
  go_enter Tryd.func15, Tryd.ntmps15
  go_wp2_with fail
  refine HP.out.mono ?_
  rintro e w1 ⟨rfl, rfl⟩
  go_wp2_with fail
  go_loopw [7, 8, 17] (fun s7 s8 s17 wr => XState w1 p l s7 s8 s17 wr) (fun _ _ i _ => l.length - (RowKit.intOf i).toNat)
  case atStart => exact HS0.out
  case round =>
    obtain ⟨k, hk, rfl, rfl, rfl, hbl⟩ := hrel
    clear HS0
    have HB := Hid.mk' hbl
    have hswr := hbl.size
    by_cases hlt : k < l.length
    · rcases hr with h0 | ⟨b, off, rfl, hcl, hb⟩
      · subst h0; simp at hlt
      have hcell : wr.cell? ⟨b, off + k, none⟩ = some (.int .i64 l[k]) := (hbl.cell (p := ⟨b, off + k, none⟩) hb).trans (hcl k hlt)
      have HK := Hid.mk' (HY.out wr l[k])
      have hsn : wrP p (l.take (k + 1)) = wrP p (l.take k) ++ [wb p l[k]] := map_snoc _ l k hlt
      have hln : (⟨(wrP p (l.take k)).toArray⟩ : ByteArray).size ≤ k := by rw [size_mk, wrP_length]; exact List.length_take_le k l
      have hlo : lost p (l.take k) ≤ k := Nat.le_trans (lost_le p _) (List.length_take_le k l)
      have hls := lost_snoc p l k hlt
      have hap := bytes_append (wrP p (l.take k)) [wb p l[k]]
      rw [← hsn] at hap
      cases hby : byF p l[k] with
      | some c =>
        rw [hby] at HK
        rw [if_neg (by rw [hby]; simp)] at hls
        have hcw : wb p l[k] = c.toUInt8 := by unfold wb; rw [hby]; rfl
        have hc256 := byF_lt hby
        rw [hcw] at hap
        have HLS := Hid.mk' hls
        have HAP := Hid.mk' hap
        dsimp only [num] at HK
        have HC1 := Hid.mk' (fun W => HBY.out c W hc256)
        clear hsn hbl hls hby hcw hap hcl HBY
        generalize (⟨(wrP p (l.take k)).toArray⟩ : ByteArray) = S at *
        generalize lost p (l.take k) = n at *
        have hz1 : (⟨#[c.toUInt8]⟩ : ByteArray).size = 1 := rfl
        have HAP2 : Hid (S ++ ⟨#[c.toUInt8]⟩ = ⟨(wrP p (l.take (k + 1))).toArray⟩) := HAP.out
        generalize (⟨#[c.toUInt8]⟩ : ByteArray) = C at *
        clear HAP
        have hc0 : (0 : Int) ≤ (c : Int) := by omega
        generalize (c : Int) = y at *
        go_wp2_with fail
        refine HK.out.mono ?_
        rintro e w2 ⟨rfl, hb2⟩
        have HB2 : Hid (Below w1.heap.size w1 w2) := HB.out.trans (hb2.mono hswr)
        have hs2 := hb2.size
        clear hb2
        go_wp2_with fail
        refine (HC1.out w2).mono ?_
        rintro e w3 ⟨rfl, hb3⟩
        have HB3 : Hid (Below w1.heap.size w1 w3) := HB2.out.trans (hb3.mono (by omega))
        clear hb3
        go_wp2
        go_roundw
        case rel => exact ⟨k + 1, by omega, by go_num, by rw [HLS.out]; go_num, by rw [HAP2.out], HB3.out⟩
        case measure => simp [RowKit.intOf]; omega
      | none =>
        rw [hby] at HK
        rw [if_pos hby] at hls
        rw [wb_q hby] at hap
        have HLS := Hid.mk' hls
        have HAP : Hid ((⟨(wrP p (l.take k)).toArray⟩ : ByteArray) ++ ⟨#[63]⟩ = ⟨(wrP p (l.take (k + 1))).toArray⟩) := hap
        dsimp only [num] at HK
        clear hsn hbl hls hby hap hcl HBY
        generalize (⟨(wrP p (l.take k)).toArray⟩ : ByteArray) = S at *
        generalize lost p (l.take k) = n at *
        go_wp2_with fail
        refine HK.out.mono ?_
        rintro e w2 ⟨rfl, hb2⟩
        have HB2 : Hid (Below w1.heap.size w1 w2) := HB.out.trans (hb2.mono hswr)
        clear hb2
        go_wp2
        go_roundw
        case rel => exact ⟨k + 1, by omega, by go_num, by rw [HLS.out]; go_num, by rw [← HAP.out], HB2.out⟩
        case measure => simp [RowKit.intOf]; omega
    · obtain rfl : k = l.length := by omega
      rw [List.take_length]
      clear hbl hr
      go_wp2
      exact bodyPost_ret (v := .tuple #[.string ⟨(wrP p l).toArray⟩, .int .i64 (lost p l : Int), .int .i64 0]) (by simp [results, Tryd.results15, go_sem]) rfl ⟨rfl, HB.out⟩
end Go.Proofs.YtmniifmgliklnaaDoor.G
