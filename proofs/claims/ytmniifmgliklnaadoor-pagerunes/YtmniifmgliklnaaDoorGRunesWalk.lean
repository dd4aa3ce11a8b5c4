/-
  The walk of farkeep.PageRunes: it returns true; conditions: the table page.lineSigns holds what its initialiser lays; at most 2^44 runes.
-/
import Derived.Test.YtmniifmgliklnaaDoorGWrite
namespace Go.Proofs.YtmniifmgliklnaaDoor.G
open Go.RowKit Go.Lib Go.Proofs.YtmniifmgliklnaaDoor

theorem runes_get {p : Int} (hp : isP p = true) (l : List Int) (k : Nat) (hk : k < l.length) (h2 : k < (rdP p (wrP p l)).length) : (rdP p (wrP p l))[k]'h2 = if byF p l[k] = none then 63 else l[k] := by
  simp only [wrP, rdP, List.getElem_map]
  cases hb : byF p l[k] with
  | none =>
    rw [wb_q hb, if_pos rfl]
    exact sg_q hp
  | some b =>
    rw [wb_nat hb, if_neg (by simp)]
    exact (byF_some hb).2
theorem runes_byte {p : Int} (l : List Int) (k : Nat) (hk : k < l.length) (hb : byF p l[k] = none) (h2 : k < (wrP p l).length) : (wrP p l)[k]'h2 = 63 := by
  simp only [wrP, List.getElem_map]
  exact wb_q hb
theorem runes_ne {p c : Int} (hp : isP p = true) (hb : byF p c = none) : (63 : Int) ≠ c := fun e => by
  subst e
  have := byF_sg hp (sz_q p)
  rw [sg_q hp, hb] at this
  cases this

def NState (w : World) (p : Int) (l : List Int) (s10 s52 : Value) (wr : World) : Prop :=
  ∃ k : Nat, k ≤ l.length ∧ s52 = .int .i64 (k : Int) ∧ s10 = .int .i64 (lost p (l.take k) : Int) ∧ wr = w

set_option maxHeartbeats 8000000 in
set_option maxRecDepth 100000 in
theorem PageRunes_bad (p : Int) (v : Value) (l : List Int) (w : World) (hT : Tab w) (hv : RdI w v l) (h : isP p = false) :
    Calls Tryd.prog 6 #[.int .i64 p, v] w fun e w' => e = .returned (.bool true) ∧ Below w.heap.size w w' := by
  have HL := Hid.mk' (lives_any w hT)
  obtain ⟨a, cap, rfl, hc, _⟩ := hv
  have HW := Hid.mk' (Write_bad p a l.length cap w h)
  clear h hT
  go_enter Tryd.func6, Tryd.ntmps6
  go_wp2_with fail
  refine HW.out.mono ?_
  rintro e w1 ⟨rfl, rfl⟩
  go_wp2_with fail
  refine HL.out.mono ?_
  rintro e w2 ⟨rfl, rfl⟩
  go_wp2_with fail
  refine HL.out.mono ?_
  rintro e w2 ⟨rfl, rfl⟩
  go_wp2
  go_ret
  exact ⟨rfl, Below.refl _ _⟩

set_option maxHeartbeats 8000000 in
set_option maxRecDepth 100000 in
theorem PageRunes_ok (p : Int) (v : Value) (l : List Int) (w : World) (hT : Tab w) (hv : RdI w v l) (h : isP p = true) (hl : l.length ≤ 17592186044416) :
    Calls Tryd.prog 6 #[.int .i64 p, v] w fun e w' => e = .returned (.bool true) ∧ Below w.heap.size w w' := by
  have HW := Hid.mk' (Write_any p v l w h hT hv hl)
  have HL : Hid (∀ w1, Below w.heap.size w w1 → Calls Tryd.prog 17 #[] w1 fun e w' => e = .returned (.bool true) ∧ w' = w1) := fun w1 hb => lives_any w1 (hT.below hb)
  have HR : Hid (∀ w1, Below w.heap.size w w1 → Calls Tryd.prog 12 #[.int .i64 p, .string ⟨(wrP p l).toArray⟩] w1 fun e w' => ∃ v, e = .returned (.tuple #[v, .int .i64 0]) ∧ OwnI w' w1.heap.size v (rdP p (wrP p l)) ∧ Below w1.heap.size w1 w') := fun w1 hb => by
    have := Read_any p (wrP p l) w1 (hT.below hb) (by rw [wrP_length]; exact hl)
    rw [if_pos h, if_pos h] at this
    exact this
  have hn : (rdP p (wrP p l)).length = l.length := by rw [rdP_length, wrP_length]
  have hst := size_mk (wrP p l)
  rw [wrP_length] at hst
  have HGS := Hid.mk' (get_mk (wrP p l))
  have HV : Hid (∀ w1, Below w.heap.size w w1 → RdI w1 v l) := fun w1 hb => hv.below hb
  obtain ⟨a, cap, rfl, hc, _⟩ := hv
  generalize (⟨(wrP p l).toArray⟩ : ByteArray) = S at *
  go_enter Tryd.func6, Tryd.ntmps6
  go_wp2_with fail
  refine HW.out.mono ?_
  rintro e w1 ⟨rfl, hb1⟩
  have HB1 := Hid.mk' hb1
  have hs1 := hb1.size
  clear hb1
  go_wp2_with fail
  refine (HL.out w1 HB1.out).mono ?_
  rintro e w2 ⟨rfl, rfl⟩
  go_wp2_with fail
  refine (HR.out _ HB1.out).mono ?_
  rintro e w3 ⟨v3, rfl, ho, hb3⟩
  have HB3 : Hid (Below w.heap.size w w3) := HB1.out.trans (hb3.mono hs1)
  have HRD := Hid.mk' (RdI.own ho)
  have HRV := Hid.mk' (HV.out w3 HB3.out)
  clear hb3 ho HR HL HW HB1 HV
  obtain ⟨a3, cap3, rfl, hc3, hr3⟩ := HRD.out
  rw [hn] at hc3 ⊢
  have HS0 : Hid (NState w3 p l (.int .i64 0) (.int .i64 0) w3) := ⟨0, Nat.zero_le _, rfl, rfl, rfl⟩
  go_wp2_with fail
  go_loopw [10, 52] (fun s10 s52 wr => NState w3 p l s10 s52 wr) (fun _ i _ => l.length - (RowKit.intOf i).toNat)
  case atStart => exact HS0.out
  case round =>
    obtain ⟨k, hk, rfl, rfl, rfl⟩ := hrel
    clear HS0 HRD
    by_cases hlt : k < l.length
    · obtain ⟨a', cap', e, hc', hr'⟩ := HRV.out
      simp only [Value.slice.injEq, true_and] at e
      obtain ⟨rfl, rfl⟩ := e
      rcases hr' with h0 | ⟨b, off, rfl, hcl, _⟩
      · subst h0; simp at hlt
      rcases hr3 with h0 | ⟨b3, off3, rfl, hcl3, _⟩
      · rw [h0] at hn; simp at hn; omega
      have c1 := hcl k hlt
      have c2 := hcl3 k (by omega)
      rw [runes_get h l k hlt] at c2
      have hls := lost_snoc p l k hlt
      have hle : lost p (l.take k) ≤ k := Nat.le_trans (lost_le p _) (List.length_take_le k l)
      cases hby : byF p l[k] with
      | some c =>
        rw [if_neg (by rw [hby]; simp)] at hls c2
        have HLS := Hid.mk' hls
        clear hls hby hcl hcl3 hT h HGS HRV
        generalize l[k] = x at *
        generalize lost p (l.take k) = n at *
        go_wp2
        go_roundw
        case rel => exact ⟨k + 1, by omega, by go_num, by rw [HLS.out]; go_num, rfl⟩
        case measure => simp [RowKit.intOf]; omega
      | none =>
        rw [if_pos hby] at hls c2
        have HLS := Hid.mk' hls
        have hne := runes_ne h hby
        have hsb : S[k]'(by omega) = 63 := (HGS.out k (by rw [wrP_length]; exact hlt) (by omega)).trans (runes_byte l k hlt hby _)
        have hsb2 : ((S[k]'(by omega)).toNat : Int) = 63 := by rw [hsb]; rfl
        clear hls hby hcl hcl3 hT h HGS HRV hsb
        generalize l[k] = x at *
        generalize lost p (l.take k) = n at *
        go_wp2
        go_roundw
        case rel => exact ⟨k + 1, by omega, by go_num, by rw [HLS.out]; go_num, rfl⟩
        case measure => simp [RowKit.intOf]; omega
    · obtain rfl : k = l.length := by omega
      rw [List.take_length]
      clear hr3 hT HGS HRV
      generalize lost p l = n at *
      go_wp2
      go_ret
      exact ⟨rfl, HB3.out⟩

theorem PageRunes_any (p : Int) (v : Value) (l : List Int) (w : World) (hT : Tab w) (hv : RdI w v l) (hl : l.length ≤ 17592186044416) :
    Calls Tryd.prog 6 #[.int .i64 p, v] w fun e w' => e = .returned (.bool true) ∧ Below w.heap.size w w' := by
  cases h : isP p with
  | false => exact PageRunes_bad p v l w hT hv h
  | true => exact PageRunes_ok p v l w hT hv h hl
end Go.Proofs.YtmniifmgliklnaaDoor.G
