/-
  Contract of farref.SortsRight: it answers what about.Check answers; condition: at most 2^44 names.
-/
import Derived.Test.YtgghplfcdkedcaaWWalk
import Derived.Deep.LoopGhost
namespace Go.Proofs.Ytgghplfcdkedcaa.W
open Go.RowKit Go.Lib Go.Proofs.Ytgghplfcdkedcaa Go.Proofs.Ytgghplfcdkedcaa.Q

/-- are the first ones signs? -/
def signs (S : ByteArray) (j : Nat) : Bool := decide (∀ a (h : a < S.size), a < j → isSign S[a] = true)
theorem signs_zero (S : ByteArray) : signs S 0 = true := decide_eq_true fun _ _ h => absurd h (Nat.not_lt_zero _)
theorem signs_succ (S : ByteArray) (j : Nat) (h : j < S.size) : signs S (j + 1) = (signs S j && isSign S[j]) := by
  cases h1 : signs S j with
  | true =>
    have h1 := of_decide_eq_true h1
    rw [Bool.true_and]
    cases h2 : isSign S[j] with
    | true =>
      refine decide_eq_true fun a ha hj => ?_
      by_cases e : a = j
      · subst e; exact h2
      · exact h1 a ha (by omega)
    | false => exact decide_eq_false fun hh => by have := hh j h (by omega); rw [h2] at this; cases this
  | false =>
    rw [Bool.false_and]
    have h1 := of_decide_eq_false h1
    exact decide_eq_false fun hh => h1 fun a ha hj => hh a ha (by omega)
theorem signs_all (S : ByteArray) : nameOk S = (btw (S.size : Int) 1 40 && signs S S.size) := by
  have e1 : decide (1 ≤ S.size ∧ S.size ≤ 40) = btw (S.size : Int) 1 40 := by
    unfold btw
    exact decide_eq_decide.2 (by omega)
  have e2 : decide (∀ k (h : k < S.size), isSign S[k] = true) = signs S S.size := decide_eq_decide.2 ⟨fun h a ha _ => h a ha, fun h k hk => h k hk hk⟩
  unfold nameOk
  rw [e1, e2]
theorem idx_here (l : List ByteArray) (k : Nat) (h : k < l.length) : (idx l l[k] = some k ∧ has (l.take k) l[k] = false) ∨ (∃ a, a < k ∧ idx l l[k] = some a ∧ has (l.take k) l[k] = true) := by
  cases hh : has (l.take k) l[k] with
  | false =>
    left
    refine ⟨idx_first l _ k h rfl (fun a ha e => ?_), rfl⟩
    have : has (l.take k) l[k] = true := has_mem.2 (by
      rw [List.mem_take_iff_getElem]
      exact ⟨a, by omega, e⟩)
    rw [hh] at this
    cases this
  | true =>
    right
    cases hi : idx l l[k] with
    | none =>
      unfold idx at hi
      rw [List.find?_range_eq_none] at hi
      have := hi k h
      simp [h] at this
    | some a =>
      refine ⟨a, ?_, rfl, rfl⟩
      have hi0 := hi
      unfold idx at hi
      rw [List.find?_range_eq_some] at hi
      obtain ⟨_, _, hmin⟩ := hi
      have hm := has_mem.1 hh
      rw [List.mem_take_iff_getElem] at hm
      obtain ⟨j, hj, e⟩ := hm
      by_cases hak : a < k
      · exact hak
      · have := hmin j (by omega)
        have hjl : j < l.length := by omega
        rw [List.getD_eq_getElem?_getD, List.getElem?_eq_getElem hjl, Option.getD_some, decide_eq_true e] at this
        cases this

def OState (w1 : World) (l : List ByteArray) (g : Nat) (s18 : Value) (wr : World) : Prop :=
  ∃ k : Nat, k ≤ l.length ∧ l.length - k ≤ g ∧ s18 = .int .i64 (k : Int) ∧ Hid (∀ a (_ : a < k) (h : a < l.length), nameOk l[a] = true ∧ has (l.take a) l[a] = false) ∧ Below w1.heap.size w1 wr
def IState (S : ByteArray) (b0 : Bool) (w3 : World) (g : Nat) (s6 s37 : Value) (wr : World) : Prop :=
  ∃ j : Nat, j ≤ S.size ∧ S.size - j ≤ g ∧ s37 = .int .i64 (j : Int) ∧ s6 = .bool (b0 && signs S j) ∧ wr = w3

theorem below_bytes (w : World) (e : TypeId) (s : ByteArray) : Below w.heap.size w (bytesWorld w e s) :=
  ⟨rfl, rfl, rfl, by rw [bytesWorld_size]; omega, fun k hk => bytesWorld_at_old w e s k hk⟩
theorem bytes_cell (w : World) (e : TypeId) (S : ByteArray) (j : Nat) (h : j < S.size) : (bytesWorld w e S).cell? ⟨w.heap.size, j, none⟩ = some (.int .u8 (S[j].toNat : Int)) := by
  rw [bytesWorld_cell _ _ _ _ h]
  have e : S.data.toList.getD j 0 = S[j] := by
    have h' : j < S.data.toList.length := h
    rw [List.getD_eq_getElem?_getD, List.getElem?_eq_getElem h']
    rfl
  rw [e]

theorem chk_len {l : List ByteArray} {k : Int} (h : btw (l.length : Int) 1 8 = false) : chk l k = 1 := by
  have := of_decide_eq_false h
  exact if_pos (by omega)
theorem chk_form {l : List ByteArray} {k : Int} (h : btw (l.length : Int) 1 8 = true) (h2 : areOk l = false) : chk l k = 4 := by
  have := of_decide_eq_true h
  unfold chk
  rw [if_neg (by omega), if_pos h2]
theorem chk_at {l : List ByteArray} {k : Int} (h : btw (l.length : Int) 1 8 = true) (h2 : areOk l = true) : chk l k = if btw k 0 (l.length : Int) = true then 0 else 1 := by
  have := of_decide_eq_true h
  unfold chk
  rw [if_neg (by omega), if_neg (by rw [h2]; decide)]
  by_cases hb : 0 ≤ k ∧ k ≤ (l.length : Int)
  · rw [if_neg (by omega), if_pos (show btw k 0 (l.length : Int) = true from decide_eq_true hb)]
  · rw [if_pos (by omega), if_neg (by unfold btw; rw [decide_eq_false hb]; decide)]

set_option maxHeartbeats 8000000 in
set_option maxRecDepth 100000 in
theorem Sorts_any (w : World) (v : Value) (l : List ByteArray) (k0 : Int) (hv : RdS w v l) (hn : l.length ≤ 17592186044416) (hsz : ∀ k (h : k < l.length), (l[k]).size ≤ maxLen) :
    Calls Try.prog 13 #[.agg #[v, .int .i64 k0]] w fun e w' => e = .returned (.int .i64 (chk l k0)) ∧ Below w.heap.size w w' := by
  have HT := Hid.mk' Between_any
  have HV := Hid.mk' hv
  have HSZ := Hid.mk' hsz
  clear hsz
  have HX : Hid (∀ W, RdS W v l → ∀ r, Calls Try.prog 25 #[v, .string r] W fun e w' => e = .returned (.int .i64 (num (idx l r))) ∧ w' = W) := fun W hW r => Index_any W v l r (idx l r) hW hn (fun k h he hn => idx_first l r k h he hn) (fun h => idx_none l r h)
  obtain ⟨a, c, rfl, hc, hr⟩ := hv
  cases h8 : btw (l.length : Int) 1 8 with
  | false =>
    have H8 := Hid.mk' (HT.out (l.length : Int) 1 8)
    rw [h8] at H8
    rw [chk_len h8]
    go_enter Try.func13, Try.ntmps13
    go_wp2_with fail
    refine (H8.out _).mono ?_
    rintro e w1 ⟨rfl, rfl⟩
    go_wp2
    go_ret
    exact ⟨rfl, (Below.refl _ _).alloc (Nat.le_refl _) _⟩
  | true =>
    have H8 := Hid.mk' (HT.out (l.length : Int) 1 8)
    rw [h8] at H8
    have HCF : Hid (∀ k (h : k < l.length), ¬ (nameOk l[k] = true ∧ has (l.take k) l[k] = false) → chk l k0 = 4) := fun k h hs => chk_form h8 (areOk_no k h hs)
    have HCT : Hid ((∀ k (h : k < l.length), nameOk l[k] = true ∧ has (l.take k) l[k] = false) → chk l k0 = if btw k0 0 (l.length : Int) = true then 0 else 1) := fun h => chk_at h8 (decide_eq_true h)
    have h8' := of_decide_eq_true h8
    have hl8 : l.length ≤ 8 := by omega
    clear h8 h8'
    generalize chk l k0 = R at *
    go_enter Try.func13, Try.ntmps13
    go_wp2_with (refine wpList_box [.slice a l.length c, .int .i64 k0] 30 rfl _ rfl rfl ?_)
    intro w1 m1
    have HM := Hid.mk' m1
    have HB1 := Hid.mk' (m1.below _ _ (Nat.le_refl _) (Below.refl _ w))
    have hlt1 := m1.lt
    have c0 := m1.box.cell (j := 0) rfl
    clear m1
    go_wp2_with fail
    refine (H8.out _).mono ?_
    rintro e w2 ⟨rfl, rfl⟩
    go_wp2_with fail
    clear c0 H8
    go_loopg [18] l.length (fun g s18 wr => OState w2 l g s18 wr)
    case atStart => exact ⟨0, Nat.zero_le _, by omega, rfl, fun a h => absurd h (Nat.not_lt_zero a), Below.refl _ _⟩
    case round =>
      obtain ⟨k, hk, hg, rfl, HO, hbl⟩ := hrel
      obtain ⟨wo, hwo⟩ : ∃ wo, wo = wr := ⟨_, rfl⟩
      subst hwo
      have HBL := Hid.mk' hbl
      have HBo := Hid.mk' (HM.out.box.later hbl)
      have HBW := Hid.mk' (HB1.out.trans (hbl.mono HB1.out.size))
      have d0 := HBo.out.cell (j := 0) rfl
      have d1 := HBo.out.cell (j := 1) rfl
      have hswo := hbl.size
      by_cases hlt : k < l.length
      · rcases hr with h0 | ⟨b1, o1, rfl, t1, hb1⟩
        · subst h0; simp at hlt
        have e1 : wo.cell? ⟨b1, o1 + k, none⟩ = some (.string l[k]) := (HBW.out.cell (p := ⟨b1, o1 + k, none⟩) hb1).trans (t1 k hlt)
        have HXk := Hid.mk' (HX.out wo (HV.out.below HBW.out) l[k])
        have HTk := Hid.mk' (HT.out ((l[k]).size : Int) 1 40)
        have HTB : Hid (∀ (j : Nat) (h : j < (l[k]).size) W, Calls Try.prog 18 #[.int .i64 ((l[k])[j].toNat : Int), .int .i64 33, .int .i64 126] W fun e w' => e = .returned (.bool (isSign (l[k])[j])) ∧ w' = W) := fun j h W => by
          have := HT.out ((l[k])[j].toNat : Int) 33 126 W
          rwa [show btw ((l[k])[j].toNat : Int) 33 126 = isSign (l[k])[j] from decide_eq_decide.2 (by omega)] at this
        have HIH := Hid.mk' (idx_here l k hlt)
        have HNO := Hid.mk' (signs_all l[k])
        have HCFk := Hid.mk' (HCF.out k hlt)
        have hcv := Lib.run_convert_string_bytes (P := Try.prog) wo 9 46 5 l[k] Try.underlying9 Try.underlying46 Try.underlying5
        have HBB := Hid.mk' (below_bytes wo 5 l[k])
        have HBC := Hid.mk' (bytes_cell wo 5 l[k])
        have HS := Hid.mk' (signs_succ l[k])
        have HS0 := Hid.mk' (signs_zero l[k])
        have HO2 : Hid (nameOk l[k] = true ∧ has (l.take k) l[k] = false → ∀ a (_ : a < k + 1) (h : a < l.length), nameOk l[a] = true ∧ has (l.take a) l[a] = false) := fun hh a ha h => by
          by_cases e : a = k
          · subst e; exact hh
          · exact HO.out a (by omega) h
        have hszk := HSZ.out k hlt
        simp only [maxLen] at hszk
        have hgc := grownCap_ge wo (l[k]).size 0 5
        have HN := Hid.mk' (show (nameOk l[k] = nameOk l[k] ∧ has (l.take k) l[k] = has (l.take k) l[k]) from ⟨rfl, rfl⟩)
        generalize hNK : nameOk l[k] = NK at *
        generalize hHK : has (l.take k) l[k] = HK at *
        clear hNK hHK HN t1 HX HV HT HO
        generalize hS : l[k] = S at *
        clear hS
        generalize grownCap wo S.size 0 5 = cap at *
        generalize hw3 : bytesWorld wo 5 S = w3 at *
        clear hw3
        have HB3 := Hid.mk' (HBL.out.trans (HBB.out.mono (by omega)))
        have hs3 := HBB.out.size
        cases hB : btw (S.size : Int) 1 40 with
        | false =>
          rw [hB] at HTk HNO
          rw [Bool.false_and] at HNO
          have hNK := HNO.out
          subst hNK
          obtain rfl : R = 4 := HCFk.out (fun h => by cases h.1)
          clear hB HCF HCT HIH HO2 HXk
          go_wp2_with fail
          refine (HTk.out _).mono ?_
          rintro e w5 ⟨rfl, rfl⟩
          go_wp2_with fail
          go_loopg [6, 37] S.size (fun g s6 s37 wr => IState S false w3 g s6 s37 wr)
          case atStart => exact ⟨0, Nat.zero_le _, by omega, rfl, by rw [HS0.out]; rfl, rfl⟩
          case round =>
            obtain ⟨j, hj, hgj, rfl, rfl, rfl⟩ := hrel
            by_cases hjl : j < S.size
            · have f1 := HBC.out j hjl
              have HSj := Hid.mk' (HS.out j hjl)
              have HTj := Hid.mk' (HTB.out j hjl)
              have x0 : (0 : Int) ≤ (S[j].toNat : Int) := by omega
              have x1 := S[j].toNat_lt
              have x2 : (S[j].toNat : Int) < 256 := by omega
              generalize isSign S[j] = si at *
              generalize (S[j].toNat : Int) = xx at *
              clear x1
              cases hsj : (false && signs S j) with
              | false =>
                have HR : Hid ((false && signs S (j + 1)) = false) := by
                  show _ = _
                  rw [HSj.out, ← Bool.and_assoc, hsj, Bool.false_and]
                clear HTj
                go_wp2
                go_roundg (S.size - (j + 1))
                case measure => omega
                case rel => exact ⟨j + 1, by omega, by omega, by go_num, by rw [HR.out], rfl⟩
              | true =>
                have HR : Hid ((false && signs S (j + 1)) = si) := by
                  show _ = _
                  rw [HSj.out, ← Bool.and_assoc, hsj, Bool.true_and]
                go_wp2_with fail
                refine (HTj.out _).mono ?_
                rintro e w7 ⟨rfl, rfl⟩
                go_wp2
                go_roundg (S.size - (j + 1))
                case measure => omega
                case rel => exact ⟨j + 1, by omega, by omega, by go_num, by rw [HR.out], rfl⟩
            · obtain rfl : j = S.size := by omega
              have HBE := Hid.mk' (HB1.out.trans (HB3.out.mono HB1.out.size))
              rw [Bool.false_and]
              go_wp2
              go_ret
              exact ⟨rfl, HBE.out⟩
        | true =>
          rw [hB] at HTk HNO
          rw [Bool.true_and] at HNO
          have hNK := HNO.out
          subst hNK
          rcases HIH.out with ⟨hi, rfl⟩ | ⟨a2, ha2, hi, rfl⟩
          · rw [hi] at HXk
            have HXk : Hid (Calls Try.prog 25 #[.slice (some ⟨b1, o1, none⟩) l.length c, .string S] wo fun e w' => e = .returned (.int .i64 (k : Int)) ∧ w' = wo) := HXk
            clear hB hi HIH HNO
            go_wp2_with fail
            refine (HTk.out _).mono ?_
            rintro e w5 ⟨rfl, rfl⟩
            go_wp2_with fail
            refine HXk.out.mono ?_
            rintro e w6 ⟨rfl, rfl⟩
            go_wp2_with fail
            go_loopg [6, 37] S.size (fun g s6 s37 wr => IState S true w3 g s6 s37 wr)
            case atStart => exact ⟨0, Nat.zero_le _, by omega, rfl, by rw [HS0.out]; rfl, rfl⟩
            case round =>
              obtain ⟨j, hj, hgj, rfl, rfl, rfl⟩ := hrel
              by_cases hjl : j < S.size
              · have f1 := HBC.out j hjl
                have HSj := Hid.mk' (HS.out j hjl)
                have HTj := Hid.mk' (HTB.out j hjl)
                have x0 : (0 : Int) ≤ (S[j].toNat : Int) := by omega
                have x1 := S[j].toNat_lt
                have x2 : (S[j].toNat : Int) < 256 := by omega
                generalize isSign S[j] = si at *
                generalize (S[j].toNat : Int) = xx at *
                clear x1
                cases hsj : (true && signs S j) with
                | false =>
                  have HR : Hid ((true && signs S (j + 1)) = false) := by
                    show _ = _
                    rw [HSj.out, ← Bool.and_assoc, hsj, Bool.false_and]
                  clear HTj
                  go_wp2
                  go_roundg (S.size - (j + 1))
                  case measure => omega
                  case rel => exact ⟨j + 1, by omega, by omega, by go_num, by rw [HR.out], rfl⟩
                | true =>
                  have HR : Hid ((true && signs S (j + 1)) = si) := by
                    show _ = _
                    rw [HSj.out, ← Bool.and_assoc, hsj, Bool.true_and]
                  go_wp2_with fail
                  refine (HTj.out _).mono ?_
                  rintro e w7 ⟨rfl, rfl⟩
                  go_wp2
                  go_roundg (S.size - (j + 1))
                  case measure => omega
                  case rel => exact ⟨j + 1, by omega, by omega, by go_num, by rw [HR.out], rfl⟩
              · obtain rfl : j = S.size := by omega
                rw [Bool.true_and]
                cases hsg : signs S S.size with
                | false =>
                  rw [hsg] at HCFk
                  obtain rfl : R = 4 := HCFk.out (fun h => by cases h.1)
                  have HBE := Hid.mk' (HB1.out.trans (HB3.out.mono HB1.out.size))
                  clear HCF HCT HO2
                  go_wp2
                  go_ret
                  exact ⟨rfl, HBE.out⟩
                | true =>
                  rw [hsg] at HO2
                  have HO3 := Hid.mk' (HO2.out (by simp))
                  clear HO2 HCFk
                  go_wp2
                  go_roundg (l.length - (k + 1))
                  case measure => omega
                  case rel => exact ⟨k + 1, by omega, by omega, by go_num, HO3, HB3.out⟩
          · rw [hi] at HXk
            have HXk : Hid (Calls Try.prog 25 #[.slice (some ⟨b1, o1, none⟩) l.length c, .string S] wo fun e w' => e = .returned (.int .i64 (a2 : Int)) ∧ w' = wo) := HXk
            obtain rfl : R = 4 := HCFk.out (fun h => by cases h.2)
            have hne : ((a2 : Int) == (k : Int)) = false := by apply beq_false_of_ne; omega
            clear hB hi HIH HNO HCF HCT HO2
            go_wp2_with fail
            refine (HTk.out _).mono ?_
            rintro e w5 ⟨rfl, rfl⟩
            go_wp2_with fail
            refine HXk.out.mono ?_
            rintro e w6 ⟨rfl, rfl⟩
            go_wp2_with fail
            go_loopg [6, 37] S.size (fun g s6 s37 wr => IState S false w3 g s6 s37 wr)
            case atStart => exact ⟨0, Nat.zero_le _, by omega, rfl, by rw [HS0.out]; rfl, rfl⟩
            case round =>
              obtain ⟨j, hj, hgj, rfl, rfl, rfl⟩ := hrel
              by_cases hjl : j < S.size
              · have f1 := HBC.out j hjl
                have HSj := Hid.mk' (HS.out j hjl)
                have HTj := Hid.mk' (HTB.out j hjl)
                have x0 : (0 : Int) ≤ (S[j].toNat : Int) := by omega
                have x1 := S[j].toNat_lt
                have x2 : (S[j].toNat : Int) < 256 := by omega
                generalize isSign S[j] = si at *
                generalize (S[j].toNat : Int) = xx at *
                clear x1
                cases hsj : (false && signs S j) with
                | false =>
                  have HR : Hid ((false && signs S (j + 1)) = false) := by
                    show _ = _
                    rw [HSj.out, ← Bool.and_assoc, hsj, Bool.false_and]
                  clear HTj
                  go_wp2
                  go_roundg (S.size - (j + 1))
                  case measure => omega
                  case rel => exact ⟨j + 1, by omega, by omega, by go_num, by rw [HR.out], rfl⟩
                | true =>
                  have HR : Hid ((false && signs S (j + 1)) = si) := by
                    show _ = _
                    rw [HSj.out, ← Bool.and_assoc, hsj, Bool.true_and]
                  go_wp2_with fail
                  refine (HTj.out _).mono ?_
                  rintro e w7 ⟨rfl, rfl⟩
                  go_wp2
                  go_roundg (S.size - (j + 1))
                  case measure => omega
                  case rel => exact ⟨j + 1, by omega, by omega, by go_num, by rw [HR.out], rfl⟩
              · obtain rfl : j = S.size := by omega
                have HBE := Hid.mk' (HB1.out.trans (HB3.out.mono HB1.out.size))
                rw [Bool.false_and]
                go_wp2
                go_ret
                exact ⟨rfl, HBE.out⟩
      · obtain rfl : k = l.length := by omega
        have e := HCT.out (fun a ha => HO.out a ha ha)
        have HK0 := Hid.mk' (HT.out k0 0 (l.length : Int))
        clear HX HV HT HO HCF HCT hr
        cases hb : btw k0 0 (l.length : Int) with
        | true =>
          rw [hb, if_pos rfl] at e
          rw [hb] at HK0
          subst e
          go_wp2_with fail
          refine (HK0.out _).mono ?_
          rintro e w5 ⟨rfl, rfl⟩
          go_wp2
          go_ret
          exact ⟨rfl, HBW.out⟩
        | false =>
          rw [hb, if_neg (by decide)] at e
          rw [hb] at HK0
          subst e
          go_wp2_with fail
          refine (HK0.out _).mono ?_
          rintro e w5 ⟨rfl, rfl⟩
          go_wp2
          go_ret
          exact ⟨rfl, HBW.out⟩
end Go.Proofs.Ytgghplfcdkedcaa.W
