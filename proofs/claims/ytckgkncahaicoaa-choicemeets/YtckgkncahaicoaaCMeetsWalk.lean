/-
  The walk of farkeep.ChoiceMeets: it returns true; conditions: at most 2^44 names in each slice, no text longer than an int tells.
-/
import Derived.Test.YtckgkncahaicoaaCLaw
import Derived.Test.YtckgkncahaicoaaCLives
namespace Go.Proofs.Ytckgkncahaicoaa.C
open Go.RowKit Go.Lib Go.Proofs.Ytckgkncahaicoaa Go.Proofs.Ytckgkncahaicoaa.W Go.Proofs.Ytckgkncahaicoaa.Q

def MO (w4 : World) (may l : List ByteArray) (g : Nat) (s49 : Value) (wr : World) : Prop :=
  ∃ k : Nat, k ≤ l.length ∧ k + g = l.length ∧ s49 = .int .i64 (k : Int) ∧ Hid (∀ a (_ : a < k) (h : a < l.length), firstL may l[a] = none) ∧ Hid (Below w4.heap.size w4 wr)
def MI (w4 : World) (may : List ByteArray) (x : ByteArray) (g : Nat) (s55 : Value) (wr : World) : Prop :=
  ∃ j : Nat, j ≤ may.length ∧ j + g = may.length ∧ s55 = .int .i64 (j : Int) ∧ Hid (∀ a (_ : a < j) (h : a < may.length), like may[a] x = false) ∧ Hid (Below w4.heap.size w4 wr)

set_option maxHeartbeats 4000000 in
set_option maxRecDepth 100000 in
theorem Meets_err (v v2 : Value) (l may : List ByteArray) (w : World) (hv : RdS w v l) (hv2 : RdS w v2 may) (hn : l.length ≤ 17592186044416) (he : ((askT l).2 = 1 ∨ (askT l).2 = 4 ∨ (askT l).2 = 5) ∧ (askT l).1 = ⟨#[]⟩) :
    Calls Try.prog 5 #[v, v2] w fun e w' => e = .returned (.bool true) ∧ Below w.heap.size w w' := by
  have H1 := Hid.mk' (Ask_any w v l hv hn)
  have HL := Hid.mk' lives_any
  obtain ⟨a1, c1, rfl, _, _⟩ := hv
  obtain ⟨a2, c2, rfl, _, _⟩ := hv2
  generalize askT l = R at *
  obtain ⟨r1, r2⟩ := R
  simp only at he
  obtain ⟨h, rfl⟩ := he
  dsimp only at H1
  rcases h with rfl | rfl | rfl
  all_goals (
    go_enter Try.func5, Try.ntmps5
    go_wp2_with fail
    refine H1.out.mono ?_
    rintro e w1 ⟨rfl, hb1⟩
    have HB1 := Hid.mk' hb1
    have hs1 := hb1.size
    clear hb1 H1
    go_wp2_with fail
    refine (HL.out w1).mono ?_
    rintro e w2 ⟨rfl, hb2⟩
    have HB2 : Hid (Below w.heap.size w w2) := HB1.out.trans (hb2.mono hs1)
    have hs2 := HB2.out.size
    clear hb2
    go_wp2_with fail
    refine (HL.out w2).mono ?_
    rintro e w3 ⟨rfl, hb3⟩
    have HB3 : Hid (Below w.heap.size w w3) := HB2.out.trans (hb3.mono hs2)
    clear hb3 HL
    go_wp2
    go_ret
    exact ⟨rfl, HB3.out⟩)

set_option maxHeartbeats 8000000 in
set_option maxRecDepth 100000 in
theorem Meets_ok (v v2 : Value) (l may : List ByteArray) (w : World) (hv : RdS w v l) (hv2 : RdS w v2 may) (hn : l.length ≤ 17592186044416) (hn2 : may.length ≤ 17592186044416) (hz : ∀ k (h : k < l.length), (l[k]).size ≤ 9223372036854775807) (hz2 : ∀ k (h : k < may.length), (may[k]).size ≤ 9223372036854775807)
    (d : List UInt8) (hd : d.length ≤ 9223372036854775807) (ha : askT l = (bs d, 0)) (has : asked d = (0, l)) :
    Calls Try.prog 5 #[v, v2] w fun e w' => e = .returned (.bool true) ∧ Below w.heap.size w w' := by
  have H1 := Hid.mk' (Ask_any w v l hv hn)
  rw [ha] at H1
  have HL := Hid.mk' lives_any
  have HU : Hid (∀ S : ByteArray, S.size ≤ 9223372036854775807 → ∀ W, Calls Try.prog 14 #[.string S] W fun e w' => e = .returned (.string (up S)) ∧ Below W.heap.size W w') := fun S h W => upper_S S W h
  have HA : Hid (∀ W, Below w.heap.size w W → Calls Try.prog 11 #[v2, .string (bs d)] W fun e w' => e = .returned (.tuple #[.string (ansT may d).1, .string (ansT may d).2.1, .int .i64 (ansT may d).2.2]) ∧ Below W.heap.size W w') := fun W hW => Answer_any W v2 may d (hv2.below hW) hn2 hz2 hd
  have HT : Hid (∀ W, Below w.heap.size w W → Calls Try.prog 9 #[v, .string (ansT may d).1] W fun e w' => e = .returned (.tuple #[.string (toldT l (ansT may d).1.data.toList).1, .int .i64 (toldT l (ansT may d).1.data.toList).2]) ∧ ∃ n, w' = W.drewN n) := fun W hW => by
    have h41 := ansT_size may d
    have := Told_any W v l (ansT may d).1.data.toList (hv.below hW) hn hz (by rw [← size_data]; omega)
    rw [bs_data] at this
    exact this
  have HS : Hid (∀ n m, pick may l = some (n, m) → (ansT may d).2.1 = m ∧ (toldT l (ansT may d).1.data.toList).2 = 0 ∧ up (toldT l (ansT may d).1.data.toList).1 = up n ∧ (toldT l (ansT may d).1.data.toList).1.size ≤ 9223372036854775807) := fun n m hp => by
    obtain ⟨h1, h2, h3, h4, h5, h6⟩ := meet_some has hp
    rw [h3, data_bs]
    obtain ⟨k, hk, e⟩ := List.mem_iff_getElem.1 h6
    have := hz k hk
    rw [e] at this
    exact ⟨h1, h4, h5, this⟩
  have HN : Hid (pick may l = none → ansT may d = (⟨#[3]⟩, ⟨#[]⟩, 0) ∧ toldT l (ansT may d).1.data.toList = (⟨#[]⟩, 6)) := fun hp => by
    have h := meet_none has hp
    rw [h]
    exact ⟨rfl, toldT_three l⟩
  have he0 : (ansT may d).2.2 = 0 := by
    cases hp : pick may l with
    | none => rw [(HN.out hp).1]
    | some x =>
      obtain ⟨n, m⟩ := x
      exact (meet_some has hp).2.1
  have HFS := Hid.mk' (firstL_some may)
  have HFN := Hid.mk' (firstL_none may)
  have HPS := Hid.mk' (pick_some may l)
  have HPN := Hid.mk' (pick_none may l)
  have HZ := Hid.mk' hz
  have HZ2 := Hid.mk' hz2
  obtain ⟨a1, c1, rfl, hc1, hr1⟩ := hv
  obtain ⟨a2, c2, rfl, hc2, hr2⟩ := hv2
  clear hz hz2 ha has hd
  generalize toldT l (ansT may d).1.data.toList = G at *
  obtain ⟨g1, g2⟩ := G
  generalize ansT may d = R at *
  obtain ⟨r1, r2, r3⟩ := R
  simp only at he0
  subst he0
  dsimp only at H1 HA HT HS HN
  generalize bs d = D at *
  go_enter Try.func5, Try.ntmps5
  go_wp2_with fail
  refine H1.out.mono ?_
  rintro e w1 ⟨rfl, hb1⟩
  have HB1 := Hid.mk' hb1
  have hs1 := hb1.size
  clear hb1 H1
  go_wp2_with fail
  refine (HL.out w1).mono ?_
  rintro e w2 ⟨rfl, hb2⟩
  have HB2 : Hid (Below w.heap.size w w2) := HB1.out.trans (hb2.mono hs1)
  have hs2 := HB2.out.size
  clear hb2 HL
  go_wp2_with fail
  refine (HA.out w2 HB2.out).mono ?_
  rintro e w3 ⟨rfl, hb3⟩
  have HB3 : Hid (Below w.heap.size w w3) := HB2.out.trans (hb3.mono hs2)
  clear hb3 HA
  go_wp2_with fail
  refine (HT.out w3 HB3.out).mono ?_
  rintro e w4 ⟨rfl, n, hw4⟩
  have HB4 : Hid (Below w.heap.size w w4) := by rw [hw4]; exact below_drewN HB3.out n
  have hs4 := HB4.out.size
  clear hw4 HT
  go_wp2_with fail
  go_loopg [49] l.length (fun g s49 wr => MO w4 may l g s49 wr)
  case atStart => exact ⟨0, Nat.zero_le _, by omega, rfl, fun a h => absurd h (Nat.not_lt_zero a), Below.refl _ _⟩
  case round =>
    obtain ⟨k, hk, hg, rfl, HO, HB⟩ := hrel
    obtain ⟨wo, hwo⟩ : ∃ wo, wo = wr := ⟨_, rfl⟩
    subst hwo
    have HB5 : Hid (Below w.heap.size w wo) := HB4.out.trans (HB.out.mono hs4)
    by_cases hlt : k < l.length
    · rcases hr1 with h0 | ⟨b1, o1, rfl, t1, hb1⟩
      · subst h0; simp at hlt
      have e1 : wo.cell? ⟨b1, o1 + k, none⟩ = some (.string l[k]) := (HB5.out.cell (p := ⟨b1, o1 + k, none⟩) hb1).trans (t1 k hlt)
      have HUk := Hid.mk' (HU.out l[k] (HZ.out k hlt))
      have HPk := Hid.mk' (fun m h => HPS.out k hlt m h (fun a ha => HO.out a ha (by omega)))
      have HFk := Hid.mk' (HFS.out l[k])
      have HNk := Hid.mk' (HFN.out l[k])
      have HO2 : Hid (firstL may l[k] = none → ∀ a (_ : a < k + 1) (h : a < l.length), firstL may l[a] = none) := fun hf a ha h => by
        by_cases e : a = k
        · subst e; exact hf
        · exact HO.out a (by omega) h
      have hG : like l[k] l[k] = true := like_self _
      clear t1 HPS HPN HFS HFN HZ HO hG HN
      generalize hx : l[k] = x at *
      clear hx
      go_wp2_with fail
      go_loopg [55] may.length (fun g s55 wr => MI w4 may x g s55 wr)
      case atStart => exact ⟨0, Nat.zero_le _, by omega, rfl, fun a h => absurd h (Nat.not_lt_zero a), HB⟩
      case round =>
        obtain ⟨j, hj, hgj, rfl, HI, HBI⟩ := hrel
        have HB6 : Hid (Below w.heap.size w wr) := HB4.out.trans (HBI.out.mono hs4)
        have hs6 := HB6.out.size
        by_cases hjl : j < may.length
        · rcases hr2 with h0 | ⟨b2, o2, rfl, t2, hb2⟩
          · subst h0; simp at hjl
          have e2 : wr.cell? ⟨b2, o2 + j, none⟩ = some (.string may[j]) := (HB6.out.cell (p := ⟨b2, o2 + j, none⟩) hb2).trans (t2 j hjl)
          have HUj := Hid.mk' (HU.out may[j] (HZ2.out j hjl))
          clear t2 HZ2
          cases hl : like may[j] x with
          | true =>
            have hf := HFk.out j hjl hl (fun a ha => HI.out a ha (by omega))
            obtain ⟨h1, h2, h3, h4⟩ := HS.out _ _ (HPk.out _ hf)
            have hup : up may[j] = up x := of_decide_eq_true hl
            have HUg := Hid.mk' (HU.out g1 h4)
            rw [h3] at HUg
            rw [hup] at HUj
            subst h2
            clear HFk HNk HPk HO2 HS HI hf hl hup h3 h4 HU
            generalize may[j] = y at *
            subst h1
            generalize up x = U at *
            go_wp2_with fail
            refine (HUk.out wr).mono ?_
            rintro e w5 ⟨rfl, hb5⟩
            have HB7 : Hid (Below w.heap.size w w5) := HB6.out.trans (hb5.mono hs6)
            have hs7 := HB7.out.size
            clear hb5
            go_wp2_with fail
            refine (HUj.out w5).mono ?_
            rintro e w6 ⟨rfl, hb6⟩
            have HB8 : Hid (Below w.heap.size w w6) := HB7.out.trans (hb6.mono hs7)
            have hs8 := HB8.out.size
            clear hb6
            go_wp2_with fail
            refine (HUg.out w6).mono ?_
            rintro e w7 ⟨rfl, hb7⟩
            have HB9 : Hid (Below w.heap.size w w7) := HB8.out.trans (hb7.mono hs8)
            have hs9 := HB9.out.size
            clear hb7
            go_wp2_with fail
            refine (HUk.out w7).mono ?_
            rintro e w8 ⟨rfl, hb8⟩
            have HB10 : Hid (Below w.heap.size w w8) := HB9.out.trans (hb8.mono hs9)
            clear hb8
            go_wp2
            go_ret
            exact ⟨rfl, HB10.out⟩
          | false =>
            have HI2 : Hid (∀ a (_ : a < j + 1) (h : a < may.length), like may[a] x = false) := fun a ha h => by
              by_cases e : a = j
              · subst e; exact hl
              · exact HI.out a (by omega) h
            have hq : ((up x).toList == (up may[j]).toList) = false := by
              rw [same_bytes]
              exact decide_eq_false (fun e => of_decide_eq_false hl e.symm)
            have hs5 := HBI.out.size
            clear HFk HNk HPk HO2 HS HI hl HU
            generalize may[j] = y at *
            generalize up x = U at *
            generalize up y = U2 at *
            go_wp2_with fail
            refine (HUk.out wr).mono ?_
            rintro e w5 ⟨rfl, hb5⟩
            have HB7 : Hid (Below w4.heap.size w4 w5) := HBI.out.trans (hb5.mono hs5)
            have hs7 := HB7.out.size
            clear hb5
            go_wp2_with fail
            refine (HUj.out w5).mono ?_
            rintro e w6 ⟨rfl, hb6⟩
            have HB8 : Hid (Below w4.heap.size w4 w6) := HB7.out.trans (hb6.mono hs7)
            clear hb6
            go_wp2
            go_roundg (may.length - (j + 1))
            case measure => omega
            case rel => exact ⟨j + 1, by omega, by omega, by go_num, HI2, HB8⟩
        · obtain rfl : j = may.length := by omega
          have HO3 := Hid.mk' (HO2.out (HNk.out (fun a ha => HI.out a ha ha)))
          clear HFk HNk HPk HO2 HS HI HU HUk HZ2 hr2
          go_wp2
          go_roundg (l.length - (k + 1))
          case measure => omega
          case rel => exact ⟨k + 1, by omega, by omega, by go_num, HO3, HBI⟩
    · obtain rfl : k = l.length := by omega
      have h0 := HN.out (HPN.out (fun a ha => HO.out a ha ha))
      simp only [Prod.mk.injEq] at h0
      obtain ⟨⟨rfl, rfl, _⟩, rfl, rfl⟩ := h0
      clear HN HPN HPS HFS HFN HZ HZ2 HO HS HU hr1 hr2
      go_wp2
      go_ret
      exact ⟨rfl, HB5.out⟩

theorem ChoiceMeets_any (v v2 : Value) (l may : List ByteArray) (w : World) (hv : RdS w v l) (hv2 : RdS w v2 may) (hn : l.length ≤ 17592186044416) (hn2 : may.length ≤ 17592186044416) (hz : ∀ k (h : k < l.length), (l[k]).size ≤ 9223372036854775807) (hz2 : ∀ k (h : k < may.length), (may[k]).size ≤ 9223372036854775807) :
    Calls Try.prog 5 #[v, v2] w fun e w' => e = .returned (.bool true) ∧ Below w.heap.size w w' := by
  rcases askT_err l with h | ⟨c, h1, ho, hf, ha⟩
  · exact Meets_err v v2 l may w hv hv2 hn h
  · refine Meets_ok v v2 l may w hv hv2 hn hn2 hz hz2 _ ?_ ha (asked_ask h1 ho hf)
    have := join_small ho h1.2 [c] (by simp)
    simp only [List.length_cons]
    omega

end Go.Proofs.Ytckgkncahaicoaa.C
