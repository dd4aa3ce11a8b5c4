/-
  Contract of farref.Chosen: it answers what choice.Answer answers; conditions: at most 2^44 names, a text of at most 2^30 bytes.
-/
import Derived.Test.YtckgkncahaicoaaCAns
import Derived.Test.YtckgkncahaicoaaCRef
namespace Go.Proofs.Ytckgkncahaicoaa.C
open Go.RowKit Go.Lib Go.Proofs.Ytckgkncahaicoaa Go.Proofs.Ytckgkncahaicoaa.W Go.Proofs.Ytckgkncahaicoaa.Q

set_option maxHeartbeats 4000000 in
set_option maxRecDepth 100000 in
theorem Chosen_short (v : Value) (may : List ByteArray) (D : ByteArray) (w : World) (hv : RdS w v may) (h : D.size < 2) :
    Calls Try.prog 12 #[v, .string D] w fun e w' => e = .returned (.tuple #[.string ⟨#[]⟩, .string ⟨#[]⟩, .int .i64 4]) ∧ Below w.heap.size w w' := by
  obtain ⟨va, vc, rfl, _, hr⟩ := hv
  have h' : (D.size : Int) < 2 := by omega
  clear hr
  go_enter Try.func12, Try.ntmps12
  go_wp2
  go_ret3
  exact ⟨rfl, Below.refl _ _⟩

set_option maxHeartbeats 4000000 in
set_option maxRecDepth 100000 in
theorem Chosen_head (v : Value) (may : List ByteArray) (a c : UInt8) (t : List UInt8) (w : World) (hv : RdS w v may) (hh : headOk a c = false) :
    Calls Try.prog 12 #[v, .string (bs (a :: c :: t))] w fun e w' => e = .returned (.tuple #[.string ⟨#[]⟩, .string ⟨#[]⟩, .int .i64 4]) ∧ Below w.heap.size w w' := by
  obtain ⟨va, vc, rfl, _, hr⟩ := hv
  have hh' := of_decide_eq_false hh
  have HT := Hid.mk' (Between_any (c.toNat : Int) 33 126 w)
  have hsz : (bs (a :: c :: t)).size = t.length + 2 := by rw [bs_size]; rfl
  have hg0 : ∀ h : 0 < (bs (a :: c :: t)).size, (bs (a :: c :: t))[0]'h = a := fun _ => rfl
  have hg1 : ∀ h : 1 < (bs (a :: c :: t)).size, (bs (a :: c :: t))[1]'h = c := fun _ => rfl
  generalize bs (a :: c :: t) = D at *
  have hg0 := hg0 (by omega)
  have hg1 := hg1 (by omega)
  have x0 : (0 : Int) ≤ (c.toNat : Int) := by omega
  have x1 : (c.toNat : Int) < 256 := by have := c.toNat_lt; omega
  clear hr
  by_cases h1 : a = 1
  · subst h1
    have hb : btw (c.toNat : Int) 33 126 = false := decide_eq_false (fun h => hh' ⟨rfl, by omega, by omega⟩)
    rw [hb] at HT
    go_enter Try.func12, Try.ntmps12
    go_wp2_with fail
    refine HT.out.mono ?_
    rintro e w1 ⟨rfl, rfl⟩
    go_wp2
    go_ret3
    exact ⟨rfl, Below.refl _ _⟩
  · have hn : ((a.toNat : Int) == 1) = false := by
      apply beq_false_of_ne
      intro e
      apply h1
      apply UInt8.toNat_inj.1
      show a.toNat = 1
      omega
    have hn2 : ¬ (a.toNat : Int) = 1 := fun e => by rw [e] at hn; cases hn
    go_enter Try.func12, Try.ntmps12
    go_wp2
    go_ret3
    exact ⟨rfl, Below.refl _ _⟩

def CS (w : World) (c : UInt8) (t : List UInt8) (P : List (List UInt8)) (g : Nat) (s7 s8 s9 : Value) (wr : World) : Prop :=
  ∃ (i j : Nat) (pre : List (List UInt8)) (word : List UInt8) (ad : Option Addr) (cap : Nat), Hid (i = 2 + j) ∧ j ≤ t.length + 1 ∧ j + g = t.length + 1 ∧ s9 = .int .i64 (i : Int) ∧ s8 = .string (bs word) ∧ s7 = .slice ad pre.length cap ∧
    Hid (OwnS wr w.heap.size ad cap (pre.map bs)) ∧ Hid (∀ p ∈ pre, nameOk (bs p) = true) ∧ Hid (j ≤ t.length → c ∉ word ∧ P = pre ++ pieces c (word ++ t.drop j)) ∧ Hid (j = t.length + 1 → P = pre) ∧ word.length ≤ j ∧ pre.length ≤ j ∧ Hid (Below w.heap.size w wr)

def CO (w5 : World) (may L : List ByteArray) (g : Nat) (s66 : Value) (wr : World) : Prop :=
  ∃ k : Nat, k ≤ L.length ∧ k + g = L.length ∧ s66 = .int .i64 (k : Int) ∧ Hid (∀ a (_ : a < k) (h : a < L.length), firstL may L[a] = none) ∧ Hid (Below w5.heap.size w5 wr)
def CI (w5 : World) (may : List ByteArray) (x : ByteArray) (g : Nat) (s72 : Value) (wr : World) : Prop :=
  ∃ j : Nat, j ≤ may.length ∧ j + g = may.length ∧ s72 = .int .i64 (j : Int) ∧ Hid (∀ a (_ : a < j) (h : a < may.length), like may[a] x = false) ∧ Hid (Below w5.heap.size w5 wr)

set_option maxHeartbeats 16000000 in
set_option maxRecDepth 100000 in
theorem Chosen_ok (v : Value) (may : List ByteArray) (c : UInt8) (t : List UInt8) (w : World) (hv : RdS w v may) (hn : may.length ≤ 17592186044416) (hz : ∀ k (h : k < may.length), (may[k]).size ≤ 9223372036854775807) (ht : t.length ≤ 1073741824) (h33 : 33 ≤ c.toNat) (h126 : c.toNat ≤ 126) :
    Calls Try.prog 12 #[v, .string (bs (1 :: c :: t))] w fun e w' => e = .returned (.tuple #[.string (ansT may (1 :: c :: t)).1, .string (ansT may (1 :: c :: t)).2.1, .int .i64 (ansT may (1 :: c :: t)).2.2]) ∧ Below w.heap.size w w' := by
  have hask : asked (1 :: c :: t) = askedL c t := by
    rw [asked, if_pos (show headOk 1 c = true from decide_eq_true ⟨rfl, h33, h126⟩)]
  have HFM : Hid (∀ p ∈ pieces c t, nameOk (bs p) = false → ansT may (1 :: c :: t) = (⟨#[]⟩, ⟨#[]⟩, 4)) := fun p h hp => by
    have e := askedL_form h hp
    rw [ansT_err (by rw [hask, e]; decide), hask, e]
  have HLG : Hid ((∀ p ∈ pieces c t, nameOk (bs p) = true) → 8 < (pieces c t).length → ansT may (1 :: c :: t) = (⟨#[]⟩, ⟨#[]⟩, 2)) := fun h h8 => by
    have e := askedL_large h h8
    rw [ansT_err (by rw [hask, e]; decide), hask, e]
  have HSM : Hid ((∀ p ∈ pieces c t, nameOk (bs p) = true) → (pieces c t).length ≤ 8 → ∀ n m, pick may ((pieces c t).map bs) = some (n, m) → ansT may (1 :: c :: t) = (bs (2 :: n.data.toList), m, 0)) := fun h h8 n m hp => by
    have e := askedL_ok h h8
    exact ansT_some (by rw [hask, e]) (by rw [hask, e]; exact hp)
  have HNO : Hid ((∀ p ∈ pieces c t, nameOk (bs p) = true) → (pieces c t).length ≤ 8 → pick may ((pieces c t).map bs) = none → ansT may (1 :: c :: t) = (⟨#[3]⟩, ⟨#[]⟩, 0)) := fun h h8 hp => by
    have e := askedL_ok h h8
    exact ansT_none (by rw [hask, e]) (by rw [hask, e]; exact hp)
  have HPS := Hid.mk' (pick_some may ((pieces c t).map bs))
  have HPN := Hid.mk' (pick_none may ((pieces c t).map bs))
  have HNA := Hid.mk' Name_any
  have HLK := Hid.mk' Like_any
  have HBT := Hid.mk' (Between_any (c.toNat : Int) 33 126 w)
  rw [show btw (c.toNat : Int) 33 126 = true from decide_eq_true ⟨by omega, by omega⟩] at HBT
  have HBy2 : Hid (∀ W : World, Calls Try.prog 21 #[.slice (some ⟨W.heap.size, 0, none⟩) 1 1] (W.alloc (.cells #[.int .i64 2] 3)) fun e w' => e = .returned (.string ⟨#[2]⟩) ∧ Below W.heap.size W w') := fun W => Bytes_ints [2] W (by simp)
  have HBy3 : Hid (∀ W : World, Calls Try.prog 21 #[.slice (some ⟨W.heap.size, 0, none⟩) 1 1] (W.alloc (.cells #[.int .i64 3] 3)) fun e w' => e = .returned (.string ⟨#[3]⟩) ∧ Below W.heap.size W w') := fun W => Bytes_ints [3] W (by simp)
  have hsz : (bs (1 :: c :: t)).size = t.length + 2 := by rw [bs_size]; rfl
  have hg0 : ∀ h : 0 < (bs (1 :: c :: t)).size, (bs (1 :: c :: t))[0]'h = 1 := fun _ => rfl
  have hg1 : ∀ h : 1 < (bs (1 :: c :: t)).size, (bs (1 :: c :: t))[1]'h = c := fun _ => rfl
  have HGJ : Hid (∀ i j (h : j < t.length) (_ : i = 2 + j) (h2 : i < (bs (1 :: c :: t)).size), (bs (1 :: c :: t))[i]'h2 = t[j]) := fun i j h hi h2 => by
    subst hi
    rw [get_data]
    simp only [data_bs]
    rw [List.getElem_cons]
    simp only [show ¬ (2 + j = 0) by omega, dite_false]
    rw [List.getElem_cons]
    simp only [show ¬ (2 + j - 1 = 0) by omega, dite_false]
    congr 1
    omega
  have HEX : Hid (∀ i j (h : j < t.length) (_ : i = 2 + j), (bs (1 :: c :: t)).extract i (i + 1) = bs [t[j]]) := fun i j h hi => by
    subst hi
    rw [bs_mid, show 2 + j = j + 1 + 1 by omega, List.drop_succ_cons, List.drop_succ_cons, List.drop_eq_getElem_cons h]
    rfl
  have HST : Hid (CS w c t (pieces c t) (t.length + 1) (.slice none 0 0) (.string ⟨#[]⟩) (.int .i64 2) w) := ⟨2, 0, [], [], none, 0, rfl, by omega, by omega, rfl, rfl, rfl, OwnS.nil _ _, fun p hp => (by cases hp), fun _ => ⟨by simp, by simp⟩, fun h => (by omega), Nat.le_refl _, Nat.le_refl _, Below.refl _ _⟩
  obtain ⟨va, vc, rfl, hvc, hr⟩ := hv
  generalize ansT may (1 :: c :: t) = R at *
  obtain ⟨r1, r2, r3⟩ := R
  generalize bs (1 :: c :: t) = D at *
  have hg0 := hg0 (by omega)
  have hg1 := hg1 (by omega)
  generalize hP : pieces c t = P at *
  have hPl : P.length ≤ t.length + 1 := by rw [← hP]; exact pieces_len c t
  have x0 : (0 : Int) ≤ (c.toNat : Int) := by omega
  have x1 : (c.toNat : Int) < 256 := by omega
  have HZ := Hid.mk' hz
  clear hP hask hz h33 h126
  go_enter Try.func12, Try.ntmps12
  go_wp2_with fail
  refine HBT.out.mono ?_
  rintro e w0 ⟨rfl, rfl⟩
  clear HBT
  go_wp2_with fail
  go_loopg [7, 8, 9] (t.length + 1) (fun g s7 s8 s9 wr => CS w0 c t P g s7 s8 s9 wr)
  case atStart => exact HST.out
  case round =>
    obtain ⟨i, j, pre, word, ad, cap, HI, hj, hg, rfl, rfl, rfl, HO, HP, HM, HE, hwl, hpl, HB⟩ := hrel
    clear HST
    by_cases hjl : j ≤ t.length
    · obtain ⟨hcw, eP⟩ := HM.out hjl
      have hij : i = 2 + j := HI.out
      have hjp : (i : Int) ≤ (t.length : Int) + 2 := by omega
      by_cases hlt : j < t.length
      · have hiz : i < D.size := by omega
        have hgj := HGJ.out i j hlt HI.out hiz
        have k1 : (i : Int) < (t.length : Int) + 2 := by omega
        have kd : decide ((i : Int) < (t.length : Int) + 2) = true := decide_eq_true k1
        have y0 : (0 : Int) ≤ (t[j].toNat : Int) := by omega
        have y1 : (t[j].toNat : Int) < 256 := by have := t[j].toNat_lt; omega
        by_cases hc : t[j] = c
        · have eP2 : P = pre ++ word :: pieces c (t.drop (j + 1)) := by
            rw [eP, List.drop_eq_getElem_cons hlt, hc, pieces_cut c _ word hcw]
          have HM2 : Hid (j + 1 ≤ t.length → c ∉ ([] : List UInt8) ∧ P = (pre ++ [word]) ++ pieces c ([] ++ t.drop (j + 1))) := fun _ => ⟨by simp, by rw [eP2]; simp⟩
          have HE2 : Hid (j + 1 = t.length + 1 → P = pre ++ [word]) := fun h => (by omega)
          rw [hc] at hgj
          clear hc y0 y1
          have H1 := Hid.mk' (HNA.out (bs word))
          have hmem : word ∈ P := by rw [eP2]; simp
          clear HGJ HEX HLK HBy2 HBy3 HSM HNO HPS HPN HLG HZ hr
          cases hnm : nameOk (bs word) with
          | false =>
            have er := HFM.out word hmem hnm
            simp only [Prod.mk.injEq] at er
            obtain ⟨rfl, rfl, rfl⟩ := er
            rw [hnm] at H1
            clear HFM HP HM HE HO hnm hmem eP eP2 HNA hij HI HM2 HE2
            generalize bs word = WD at *
            generalize pre.length = N at *
            go_wp2_with fail
            go_quiet (fail)
            go_wp2_with fail
            refine (H1.out _).mono ?_
            rintro e w3 ⟨rfl, hb3⟩
            have HB3 : Hid (Below w0.heap.size w0 w3) := (below_drewN HB.out nq).trans (hb3.mono (by have := HB.out.size; simpa using this))
            clear hb3
            go_wp2
            go_ret3
            exact ⟨rfl, HB3.out⟩
          | true =>
            have HP1 : Hid (∀ p ∈ pre ++ [word], nameOk (bs p) = true) := fun p hp => by
              rw [List.mem_append, List.mem_singleton] at hp
              rcases hp with hp | rfl
              · exact HP.out p hp
              · exact hnm
            rw [hnm] at H1
            have HR : Hid (∀ W ad' cap' l', l' = pre.map bs ++ [bs word] → OwnS W w0.heap.size ad' cap' l' → Below w0.heap.size w0 W → CS w0 c t P (t.length - j) (.slice ad' l'.length cap') (.string ⟨#[]⟩) (.int .i64 ((i : Int) + 1)) W) := fun W ad' cap' l' hl' h1 h2 => by
              subst hl'
              refine ⟨i + 1, j + 1, pre ++ [word], [], ad', cap', Hid.mk' (by omega), by omega, by omega, rfl, rfl, by simp, ?_, HP1.out, HM2, HE2, by simp, by simp; omega, h2⟩
              rw [List.map_append]
              exact h1
            have hl44 : (pre.map bs).length ≤ 1099511627776 := by simp; omega
            have HLM : Hid ((pre.map bs).length = pre.length) := by simp [Hid]
            have hs0 := HB.out.size
            clear HFM HP HM HE hnm hmem eP eP2 HNA HP1 HM2 HE2 hij HI
            generalize hpm : pre.map bs = PM at *
            clear hpm
            generalize bs word = WD at *
            generalize pre.length = N0 at *
            go_wp2_with fail
            go_quiet (fail)
            go_wp2_with fail
            refine (H1.out _).mono ?_
            rintro e w3 ⟨rfl, hb3⟩
            have HB3 : Hid (Below w0.heap.size w0 w3) := (below_drewN HB.out nq).trans (hb3.mono (by simpa using hs0))
            have HO3 : Hid (OwnS w3 w0.heap.size ad cap PM) := (HO.out.drewN nq).below hb3
            have hs3 := HB3.out.size
            clear hb3 HO HB
            go_wp2_with (at_builtin; refine wpList_append_s _ (by rfl) _ _ rfl w0.heap.size ad cap PM _ rfl HLM.out.symm HO3.out WD _ rfl hs3 hl44 ?_)
            intro ad' cap' l' w4 hl' ho4 hb4
            have HR4 := Hid.mk' (HR.out w4 ad' cap' l' hl'.out ho4 (hb4 _ _ (Nat.le_refl _) HB3.out))
            clear ho4 hb4 HR HO3 hl'
            go_wp2
            go_roundg (t.length - j)
            case measure => omega
            case rel => exact HR4.out
        · have hne : ((t[j].toNat : Int) == (c.toNat : Int)) = false := by
            apply beq_false_of_ne
            intro e
            exact hc (UInt8.toNat_inj.1 (Int.ofNat_inj.1 e))
          have hne2 : ¬ (t[j].toNat : Int) = (c.toNat : Int) := fun e => hc (UInt8.toNat_inj.1 (Int.ofNat_inj.1 e))
          have hex := HEX.out i j hlt HI.out
          have hap : bs word ++ bs [t[j]] = bs (word ++ [t[j]]) := bs_app _ _
          have hws : (bs word).size = word.length := bs_size word
          have hws1 : (bs [t[j]]).size = 1 := bs_size _
          have HR : Hid (∀ q, CS w0 c t P (t.length - j) (.slice ad pre.length cap) (.string (bs (word ++ [t[j]]))) (.int .i64 ((i : Int) + 1)) (wr.drewN q)) := fun q => by
            refine ⟨i + 1, j + 1, pre, word ++ [t[j]], ad, cap, Hid.mk' (by omega), by omega, by omega, rfl, rfl, rfl, HO.out.drewN q, HP.out, ?_, fun h => (by omega), by simp; omega, by omega, below_drewN HB.out q⟩
            intro _
            refine ⟨?_, ?_⟩
            · simp only [List.mem_append, List.mem_singleton, not_or]
              exact ⟨hcw, fun e => hc e.symm⟩
            · rw [eP, List.drop_eq_getElem_cons hlt]; simp
          clear HGJ HEX HLK HBy2 HBy3 HSM HNO HPS HPN HLG HZ hr HFM HP HM HE HO HNA HB eP hcw hc
          generalize bs (word ++ [t[j]]) = W2 at *
          generalize bs [t[j]] = X1 at *
          generalize bs word = WD at *
          generalize pre.length = N0 at *
          clear hij HI
          go_wp2_with fail
          go_quiet (fail)
          go_wp2
          go_roundg (t.length - j)
          case measure => omega
          case rel => exact HR.out nq
      · obtain rfl : j = t.length := by omega
        have kd : decide ((i : Int) < (t.length : Int) + 2) = false := decide_eq_false (by omega)
        have k1 : ¬ (i : Int) < (t.length : Int) + 2 := by omega
        have eP2 : P = pre ++ [word] := by
          rw [eP, List.drop_length, List.append_nil, pieces_one c word hcw]
        have HM2 : Hid (t.length + 1 ≤ t.length → c ∉ ([] : List UInt8) ∧ P = (pre ++ [word]) ++ pieces c ([] ++ t.drop (t.length + 1))) := fun h => absurd h (by omega)
        have HE2 : Hid (t.length + 1 = t.length + 1 → P = pre ++ [word]) := fun _ => eP2
        have H1 := Hid.mk' (HNA.out (bs word))
        have hmem : word ∈ P := by rw [eP2]; simp
        clear HGJ HEX HLK HBy2 HBy3 HSM HNO HPS HPN HLG HZ hr
        cases hnm : nameOk (bs word) with
        | false =>
          have er := HFM.out word hmem hnm
          simp only [Prod.mk.injEq] at er
          obtain ⟨rfl, rfl, rfl⟩ := er
          rw [hnm] at H1
          clear HFM HP HM HE HO hnm hmem eP eP2 HNA hij HI HM2 HE2
          generalize bs word = WD at *
          generalize pre.length = N at *
          go_wp2_with fail
          go_quiet (fail)
          go_wp2_with fail
          refine (H1.out _).mono ?_
          rintro e w3 ⟨rfl, hb3⟩
          have HB3 : Hid (Below w0.heap.size w0 w3) := (below_drewN HB.out nq).trans (hb3.mono (by have := HB.out.size; simpa using this))
          clear hb3
          go_wp2
          go_ret3
          exact ⟨rfl, HB3.out⟩
        | true =>
          have HP1 : Hid (∀ p ∈ pre ++ [word], nameOk (bs p) = true) := fun p hp => by
            rw [List.mem_append, List.mem_singleton] at hp
            rcases hp with hp | rfl
            · exact HP.out p hp
            · exact hnm
          rw [hnm] at H1
          have HR : Hid (∀ W ad' cap' l', l' = pre.map bs ++ [bs word] → OwnS W w0.heap.size ad' cap' l' → Below w0.heap.size w0 W → CS w0 c t P (t.length - t.length) (.slice ad' l'.length cap') (.string ⟨#[]⟩) (.int .i64 ((i : Int) + 1)) W) := fun W ad' cap' l' hl' h1 h2 => by
            subst hl'
            refine ⟨i + 1, t.length + 1, pre ++ [word], [], ad', cap', Hid.mk' (by omega), by omega, by omega, rfl, rfl, by simp, ?_, HP1.out, HM2, HE2, by simp, by simp; omega, h2⟩
            rw [List.map_append]
            exact h1
          have hl44 : (pre.map bs).length ≤ 1099511627776 := by simp; omega
          have HLM : Hid ((pre.map bs).length = pre.length) := by simp [Hid]
          have hs0 := HB.out.size
          clear HFM HP HM HE hnm hmem eP eP2 HNA HP1 HM2 HE2 hij HI
          generalize hpm : pre.map bs = PM at *
          clear hpm
          generalize bs word = WD at *
          generalize pre.length = N0 at *
          go_wp2_with fail
          go_quiet (fail)
          go_wp2_with fail
          refine (H1.out _).mono ?_
          rintro e w3 ⟨rfl, hb3⟩
          have HB3 : Hid (Below w0.heap.size w0 w3) := (below_drewN HB.out nq).trans (hb3.mono (by simpa using hs0))
          have HO3 : Hid (OwnS w3 w0.heap.size ad cap PM) := (HO.out.drewN nq).below hb3
          have hs3 := HB3.out.size
          clear hb3 HO HB
          go_wp2_with (at_builtin; refine wpList_append_s _ (by rfl) _ _ rfl w0.heap.size ad cap PM _ rfl HLM.out.symm HO3.out WD _ rfl hs3 hl44 ?_)
          intro ad' cap' l' w4 hl' ho4 hb4
          have HR4 := Hid.mk' (HR.out w4 ad' cap' l' hl'.out ho4 (hb4 _ _ (Nat.le_refl _) HB3.out))
          clear ho4 hb4 HR HO3 hl'
          go_wp2
          go_roundg (t.length - t.length)
          case measure => omega
          case rel => exact HR4.out
    · obtain rfl : j = t.length + 1 := by omega
      obtain rfl : P = pre := HE.out rfl
      have hij : i = 2 + (t.length + 1) := HI.out
      have k1 : ¬ (i : Int) ≤ (t.length : Int) + 2 := by omega
      clear HM HE HGJ HEX hwl hjl HFM HNA HI hij
      by_cases h8 : 8 < P.length
      · have er := HLG.out HP.out h8
        simp only [Prod.mk.injEq] at er
        obtain ⟨rfl, rfl, rfl⟩ := er
        have h8' : (8 : Int) < (P.length : Int) := by omega
        clear HLG HSM HNO HPS HPN HLK HBy2 HBy3 HZ hr HO HP
        generalize bs word = WD at *
        generalize P.length = N at *
        go_wp2
        go_ret3
        exact ⟨rfl, HB.out⟩
      · have h8' : ¬ (8 : Int) < (P.length : Int) := by omega
        have HSM1 := Hid.mk' (HSM.out HP.out (by omega))
        have HNO1 := Hid.mk' (HNO.out HP.out (by omega))
        have HRD := HO.out.rd
        have hLl : (P.map bs).length = P.length := by simp
        have HLS : Hid (∀ k (h : k < (P.map bs).length), ((P.map bs)[k]).size ≤ 40) := fun k h => by
          have hk : k < P.length := by simpa using h
          have := (nameOk_size (HP.out P[k] (List.getElem_mem hk))).2
          simpa using this
        clear HLG HSM HNO HP HO
        rw [← hLl] at h8' h8 ⊢
        clear hPl hpl
        generalize P.map bs = L at *
        obtain ⟨w5, hw5⟩ : ∃ w5, w5 = wr := ⟨_, rfl⟩
        subst hw5
        have HB5 : Hid (Below w0.heap.size w0 w5) := HB
        have hs5 := HB5.out.size
        clear HB hLl
        obtain ⟨ad', cap', e, hcap, hrl⟩ := HRD
        simp only [Value.slice.injEq] at e
        obtain ⟨rfl, _, rfl⟩ := e
        generalize bs word = WD at *
        go_wp2_with fail
        go_loopg [66] L.length (fun g s66 wr => CO w5 may L g s66 wr)
        case atStart => exact ⟨0, Nat.zero_le _, by omega, rfl, fun a h => absurd h (Nat.not_lt_zero a), Below.refl _ _⟩
        case round =>
          obtain ⟨k, hk, hgk, rfl, HOF, HB6⟩ := hrel
          obtain ⟨wo, hwo⟩ : ∃ wo, wo = wr := ⟨_, rfl⟩
          subst hwo
          have HB7 : Hid (Below w0.heap.size w0 wo) := HB5.out.trans (HB6.out.mono hs5)
          by_cases hlt : k < L.length
          · rcases hrl with h0 | ⟨b1, o1, rfl, t1, hb1⟩
            · subst h0; simp at hlt
            have e1 : wo.cell? ⟨b1, o1 + k, none⟩ = some (.string L[k]) := (HB6.out.cell (p := ⟨b1, o1 + k, none⟩) hb1).trans (t1 k hlt)
            have hsk := HLS.out k hlt
            have HPk := Hid.mk' (fun m h => HPS.out k hlt m h (fun a ha => HOF.out a ha (by omega)))
            have HFk := Hid.mk' (firstL_some may L[k])
            have HNk := Hid.mk' (firstL_none may L[k])
            have HO2 : Hid (firstL may L[k] = none → ∀ a (_ : a < k + 1) (h : a < L.length), firstL may L[a] = none) := fun hf a ha h => by
              by_cases e : a = k
              · subst e; exact hf
              · exact HOF.out a (by omega) h
            have hap := two_app L[k]
            have HSk := Hid.mk' (HSM1.out L[k])
            clear t1 HPS HPN HOF HNO1 HSM1 HBy3 HLS
            generalize hx : L[k] = x at *
            clear hx
            go_wp2_with fail
            go_loopg [72] may.length (fun g s72 wr => CI w5 may x g s72 wr)
            case atStart => exact ⟨0, Nat.zero_le _, by omega, rfl, fun a h => absurd h (Nat.not_lt_zero a), HB6⟩
            case round =>
              obtain ⟨j, hj, hgj, rfl, HI, HBI⟩ := hrel
              have HB8 : Hid (Below w0.heap.size w0 wr) := HB5.out.trans (HBI.out.mono hs5)
              have hs8 := HB8.out.size
              by_cases hjl : j < may.length
              · rcases hr with h0 | ⟨b2, o2, rfl, t2, hb2⟩
                · subst h0; simp at hjl
                have e2 : wr.cell? ⟨b2, o2 + j, none⟩ = some (.string may[j]) := (HB8.out.cell (p := ⟨b2, o2 + j, none⟩) hb2).trans (t2 j hjl)
                have H1 := Hid.mk' (HLK.out x may[j] wr (by omega))
                rw [like_comm] at H1
                clear t2 HZ HLK
                cases hl : like may[j] x with
                | true =>
                  have hf := HFk.out j hjl hl (fun a ha => HI.out a ha (by omega))
                  have er := HSk.out _ (HPk.out _ hf)
                  simp only [Prod.mk.injEq] at er
                  obtain ⟨er, er2, rfl⟩ := er
                  rw [← er] at hap
                  rw [hl] at H1
                  clear HFk HNk HPk HO2 HSk HI hf hl er
                  generalize may[j] = y at *
                  subst er2
                  go_wp2_with fail
                  refine H1.out.mono ?_
                  rintro e w7 ⟨rfl, n, hw7⟩
                  have HB9 : Hid (Below w0.heap.size w0 w7) := by rw [hw7]; exact below_drewN HB8.out n
                  have hs9 := HB9.out.size
                  clear hw7
                  go_wp2_with fail
                  refine (HBy2.out w7).mono ?_
                  rintro e w8 ⟨rfl, hb8⟩
                  have HB10 : Hid (Below w0.heap.size w0 w8) := HB9.out.trans (hb8.mono hs9)
                  clear hb8
                  go_wp2
                  go_ret3
                  exact ⟨rfl, HB10.out⟩
                | false =>
                  have HI2 : Hid (∀ a (_ : a < j + 1) (h : a < may.length), like may[a] x = false) := fun a ha h => by
                    by_cases e : a = j
                    · subst e; exact hl
                    · exact HI.out a (by omega) h
                  rw [hl] at H1
                  clear HFk HNk HPk HO2 HSk HI hl hap
                  generalize may[j] = y at *
                  go_wp2_with fail
                  refine H1.out.mono ?_
                  rintro e w7 ⟨rfl, n, hw7⟩
                  have HB9 : Hid (Below w5.heap.size w5 w7) := by rw [hw7]; exact below_drewN HBI.out n
                  clear hw7
                  go_wp2
                  go_roundg (may.length - (j + 1))
                  case measure => omega
                  case rel => exact ⟨j + 1, by omega, by omega, by go_num, HI2, HB9⟩
              · obtain rfl : j = may.length := by omega
                have HO3 := Hid.mk' (HO2.out (HNk.out (fun a ha => HI.out a ha ha)))
                clear HFk HNk HPk HO2 HSk HI HLK HZ hr hap
                go_wp2
                go_roundg (L.length - (k + 1))
                case measure => omega
                case rel => exact ⟨k + 1, by omega, by omega, by go_num, HO3, HBI⟩
          · obtain rfl : k = L.length := by omega
            have er := HNO1.out (HPN.out (fun a ha => HOF.out a ha ha))
            simp only [Prod.mk.injEq] at er
            obtain ⟨rfl, rfl, rfl⟩ := er
            have hs7 := HB7.out.size
            clear HNO1 HPN HPS HSM1 HOF HLK HZ hr hrl HBy2 HLS
            go_wp2_with fail
            refine (HBy3.out wo).mono ?_
            rintro e w8 ⟨rfl, hb8⟩
            have HB10 : Hid (Below w0.heap.size w0 w8) := HB7.out.trans (hb8.mono hs7)
            clear hb8
            go_wp2
            go_ret3
            exact ⟨rfl, HB10.out⟩

theorem Chosen_any (v : Value) (may : List ByteArray) (d : List UInt8) (w : World) (hv : RdS w v may) (hn : may.length ≤ 17592186044416) (hz : ∀ k (h : k < may.length), (may[k]).size ≤ 9223372036854775807) (hd : d.length ≤ 1073741824) :
    Calls Try.prog 12 #[v, .string (bs d)] w fun e w' => e = .returned (.tuple #[.string (ansT may d).1, .string (ansT may d).2.1, .int .i64 (ansT may d).2.2]) ∧ Below w.heap.size w w' := by
  match d, hd with
  | [], _ => exact Chosen_short v may (bs []) w hv (by rw [bs_size]; simp)
  | [x], _ => exact Chosen_short v may (bs [x]) w hv (by rw [bs_size]; simp)
  | a :: c :: s, hd =>
    cases hh : headOk a c with
    | false =>
      have e : asked (a :: c :: s) = (4, []) := by rw [asked, if_neg (by rw [hh]; decide)]
      rw [ansT_err (by rw [e]; decide), e]
      exact Chosen_head v may a c s w hv hh
    | true =>
      have h := of_decide_eq_true hh
      rw [h.1]
      exact Chosen_ok v may c s w hv hn hz (by simp at hd; omega) h.2.1 h.2.2
end Go.Proofs.Ytckgkncahaicoaa.C
