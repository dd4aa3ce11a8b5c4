/-
  Contracts of slices.Contains at []string, about.IsName, areNames, Check and next; condition: at most 2^44 names; next: At is from 0 to as many names as there are, and there is one.
-/
import Derived.Test.YtgghplfcdkedcaaWName
namespace Go.Proofs.Ytgghplfcdkedcaa.W
open Go.RowKit Go.Lib Go.Proofs.Ytgghplfcdkedcaa Go.Proofs.Ytgghplfcdkedcaa.Q

/-- is it among them? -/
def has (l : List ByteArray) (r : ByteArray) : Bool := l.any fun x => decide (x = r)
theorem has_mem {l : List ByteArray} {r : ByteArray} : has l r = true ↔ r ∈ l := by simp [has]
theorem has_not {l : List ByteArray} {r : ByteArray} (h : ¬ r ∈ l) : has l r = false := by
  cases e : has l r with
  | false => rfl
  | true => exact absurd (has_mem.1 e) h
theorem num_some (k : Nat) : (0 ≤ num (some k)) := by show (0 : Int) ≤ (k : Int); omega

set_option maxHeartbeats 4000000 in
theorem Contains_any (w : World) (v : Value) (l : List ByteArray) (r : ByteArray) (hv : RdS w v l) (hn : l.length ≤ 17592186044416) :
    Calls Try.prog 28 #[v, .string r] w fun e w' => e = .returned (.bool (has l r)) ∧ w' = w := by
  have H := Hid.mk' (Index_any w v l r (idx l r) hv hn (fun k h he hn => idx_first l r k h he hn) (fun h => idx_none l r h))
  have hd : (0 ≤ num (idx l r) ∧ has l r = true) ∨ (num (idx l r) < 0 ∧ has l r = false) := by
    by_cases hm : r ∈ l
    · left
      refine ⟨?_, has_mem.2 hm⟩
      cases hi : idx l r with
      | some k => exact num_some k
      | none =>
        unfold idx at hi
        rw [List.find?_range_eq_none] at hi
        obtain ⟨k, hk, e⟩ := List.mem_iff_getElem.1 hm
        have := hi k hk
        simp [hk, e] at this
    · right
      refine ⟨?_, has_not hm⟩
      rw [idx_none l r (fun k h e => hm (e ▸ List.getElem_mem h))]
      decide
  obtain ⟨a, c, rfl, hc, hr⟩ := hv
  generalize has l r = B at *
  generalize num (idx l r) = N at *
  rcases hd with ⟨h0, rfl⟩ | ⟨h0, rfl⟩
  · go_enter Try.func28, Try.ntmps28
    go_wp2_with fail
    refine H.out.mono ?_
    rintro e w1 ⟨rfl, rfl⟩
    go_wp2
    go_ret
    exact ⟨rfl, rfl⟩
  · go_enter Try.func28, Try.ntmps28
    go_wp2_with fail
    refine H.out.mono ?_
    rintro e w1 ⟨rfl, rfl⟩
    go_wp2
    go_ret
    have e : decide (0 ≤ N) = false := decide_eq_false (by omega)
    exact ⟨congrArg (fun b => Ending.returned (.bool b)) e, rfl⟩

def isSign (b : UInt8) : Bool := decide (33 ≤ b.toNat ∧ b.toNat ≤ 126)
/-- is it a name? -/
def nameOk (S : ByteArray) : Bool := decide (1 ≤ S.size ∧ S.size ≤ 40) && decide (∀ k (h : k < S.size), isSign S[k] = true)
theorem nameOk_mk {S : ByteArray} (h1 : 1 ≤ S.size) (h2 : S.size ≤ 40) (h : ∀ k (h : k < S.size), isSign S[k] = true) : nameOk S = true := by
  unfold nameOk
  rw [decide_eq_true ⟨h1, h2⟩, decide_eq_true h]
  rfl
theorem nameOk_no {S : ByteArray} (k : Nat) (h : k < S.size) (hs : isSign S[k] = false) : nameOk S = false := by
  unfold nameOk
  have e : decide (∀ k (h : k < S.size), isSign S[k] = true) = false := decide_eq_false (fun hh => by have := hh k h; rw [hs] at this; cases this)
  rw [e, Bool.and_false]
theorem nameOk_len {S : ByteArray} (h : ¬ (1 ≤ S.size ∧ S.size ≤ 40)) : nameOk S = false := by
  unfold nameOk
  rw [decide_eq_false h, Bool.false_and]

set_option maxHeartbeats 4000000 in
theorem isName_any (S : ByteArray) (w : World) : Calls Try.prog 27 #[.string S] w fun e w' => e = .returned (.bool (nameOk S)) ∧ w' = w := by
  by_cases h1 : S.size < 1
  · rw [nameOk_len (by omega)]
    have h1' : (S.size : Int) < 1 := by omega
    go_enter Try.func27, Try.ntmps27
    go_wp2
    go_ret
    exact ⟨rfl, rfl⟩
  by_cases h2 : 40 < S.size
  · rw [nameOk_len (by omega)]
    have h1' : ¬ (S.size : Int) < 1 := by omega
    have h2' : (40 : Int) < (S.size : Int) := by omega
    go_enter Try.func27, Try.ntmps27
    go_wp2
    go_ret
    exact ⟨rfl, rfl⟩
  have h1' : ¬ (S.size : Int) < 1 := by omega
  have h2' : ¬ (40 : Int) < (S.size : Int) := by omega
  have HT : Hid ((∀ k (h : k < S.size), isSign S[k] = true) → nameOk S = true) := fun h => nameOk_mk (by omega) (by omega) h
  have HF : Hid (∀ k (h : k < S.size), isSign S[k] = false → nameOk S = false) := fun k h hs => nameOk_no k h hs
  generalize nameOk S = R at *
  go_enter Try.func27, Try.ntmps27
  go_wp2_with fail
  go_loopw [14] (fun s14 wr => ∃ k : Nat, k ≤ S.size ∧ s14 = .int .i64 (k : Int) ∧ Hid (∀ a (_ : a < k) (h : a < S.size), isSign S[a] = true) ∧ wr = w) (fun i _ => S.size - (RowKit.intOf i).toNat)
  case atStart => exact ⟨0, Nat.zero_le _, rfl, fun a h => absurd h (Nat.not_lt_zero a), rfl⟩
  case round =>
    obtain ⟨k, hk, rfl, HO, rfl⟩ := hrel
    by_cases hlt : k < S.size
    · have hx0 : (0 : Int) ≤ (S[k].toNat : Int) := by omega
      have hx1 := S[k].toNat_lt
      cases hs : isSign S[k] with
      | true =>
        have HO2 : Hid (∀ a (_ : a < k + 1) (h : a < S.size), isSign S[a] = true) := fun a ha h => by
          by_cases e : a = k
          · subst e; exact hs
          · exact HO.out a (by omega) h
        have hs' := of_decide_eq_true hs
        have q1 : ¬ (S[k].toNat : Int) < 33 := by omega
        have q2 : ¬ (126 : Int) < (S[k].toNat : Int) := by omega
        clear HT HF HO hs hs'
        go_wp2
        go_roundw
        case rel => exact ⟨k + 1, by omega, by go_num, HO2, trivial⟩
        case measure => simp [RowKit.intOf]; omega
      | false =>
        have e : R = false := HF.out k hlt hs
        subst e
        have hs' := of_decide_eq_false hs
        clear HT HF HO hs
        by_cases q1 : (S[k].toNat : Int) < 33
        · clear hs'
          go_wp2
          go_ret
          exact ⟨rfl, rfl⟩
        · have q2 : (126 : Int) < (S[k].toNat : Int) := by omega
          clear hs'
          go_wp2
          go_ret
          exact ⟨rfl, rfl⟩
    · obtain rfl : k = S.size := by omega
      have e : R = true := HT.out (fun a ha => HO.out a ha ha)
      subst e
      clear HT HF HO
      go_wp2
      go_ret
      exact ⟨rfl, rfl⟩

/-- are they names, no two the same? -/
def areOk (l : List ByteArray) : Bool := decide (∀ k (h : k < l.length), nameOk l[k] = true ∧ has (l.take k) l[k] = false)
theorem areOk_no {l : List ByteArray} (k : Nat) (h : k < l.length) (hs : ¬ (nameOk l[k] = true ∧ has (l.take k) l[k] = false)) : areOk l = false := decide_eq_false (fun hh => hs (hh k h))

set_option maxHeartbeats 4000000 in
theorem areNames_any (w : World) (v : Value) (l : List ByteArray) (hv : RdS w v l) (hn : l.length ≤ 17592186044416) :
    Calls Try.prog 26 #[v] w fun e w' => e = .returned (.bool (areOk l)) ∧ w' = w := by
  have HT : Hid ((∀ k (h : k < l.length), nameOk l[k] = true ∧ has (l.take k) l[k] = false) → areOk l = true) := fun h => decide_eq_true h
  have HF : Hid (∀ k (h : k < l.length), ¬ (nameOk l[k] = true ∧ has (l.take k) l[k] = false) → areOk l = false) := fun k h hs => areOk_no k h hs
  have HI := Hid.mk' isName_any
  have HV := Hid.mk' hv
  obtain ⟨a, c, rfl, hc, hr⟩ := hv
  have HC : Hid (∀ k, k ≤ l.length → ∀ r, Calls Try.prog 28 #[.slice a k c, .string r] w fun e w' => e = .returned (.bool (has (l.take k) r)) ∧ w' = w) := fun k hk r => Contains_any w _ (l.take k) r (HV.out.front k hk) (by simp; omega)
  generalize areOk l = R at *
  clear HV
  go_enter Try.func26, Try.ntmps26
  go_wp2_with fail
  go_loopw [7] (fun s7 wr => ∃ k : Nat, k ≤ l.length ∧ s7 = .int .i64 (k : Int) ∧ Hid (∀ a (_ : a < k) (h : a < l.length), nameOk l[a] = true ∧ has (l.take a) l[a] = false) ∧ wr = w) (fun i _ => l.length - (RowKit.intOf i).toNat)
  case atStart => exact ⟨0, Nat.zero_le _, rfl, fun a h => absurd h (Nat.not_lt_zero a), rfl⟩
  case round =>
    obtain ⟨k, hk, rfl, HO, rfl⟩ := hrel
    by_cases hlt : k < l.length
    · rcases hr with h0 | ⟨b1, o1, rfl, t1, _⟩
      · subst h0; simp at hlt
      have e1 := t1 k hlt
      have H1 := Hid.mk' (HI.out l[k] wr)
      have H2 := Hid.mk' (HC.out k (by omega) l[k])
      clear t1 HI HC
      cases h1 : nameOk l[k] with
      | false =>
        have e : R = false := HF.out k hlt (fun h => by rw [h1] at h; cases h.1)
        subst e
        rw [h1] at H1
        clear HT HF HO h1 H2
        generalize l[k] = x at *
        go_wp2_with fail
        refine H1.out.mono ?_
        rintro e w1 ⟨rfl, rfl⟩
        go_wp2
        go_ret
        exact ⟨rfl, rfl⟩
      | true =>
        rw [h1] at H1
        cases h2 : has (l.take k) l[k] with
        | true =>
          have e : R = false := HF.out k hlt (fun h => by rw [h2] at h; cases h.2)
          subst e
          rw [h2] at H2
          clear HT HF HO h1 h2
          generalize l[k] = x at *
          go_wp2_with fail
          refine H1.out.mono ?_
          rintro e w1 ⟨rfl, rfl⟩
          go_wp2_with fail
          refine H2.out.mono ?_
          rintro e w1 ⟨rfl, rfl⟩
          go_wp2
          go_ret
          exact ⟨rfl, rfl⟩
        | false =>
          rw [h2] at H2
          have HO2 : Hid (∀ a (_ : a < k + 1) (h : a < l.length), nameOk l[a] = true ∧ has (l.take a) l[a] = false) := fun a ha h => by
            by_cases e : a = k
            · subst e; exact ⟨h1, h2⟩
            · exact HO.out a (by omega) h
          clear HT HF HO h1 h2
          generalize l[k] = x at *
          go_wp2_with fail
          refine H1.out.mono ?_
          rintro e w1 ⟨rfl, rfl⟩
          go_wp2_with fail
          refine H2.out.mono ?_
          rintro e w1 ⟨rfl, rfl⟩
          go_wp2
          go_roundw
          case rel => exact ⟨k + 1, by omega, by go_num, HO2, trivial⟩
          case measure => simp [RowKit.intOf]; omega
    · obtain rfl : k = l.length := by omega
      have e : R = true := HT.out (fun a ha => HO.out a ha ha)
      subst e
      clear HT HF HO HI HC hr
      go_wp2
      go_ret
      exact ⟨rfl, rfl⟩

/-- what Check answers -/
def chk (l : List ByteArray) (k : Int) : Int := if ¬ (1 ≤ l.length ∧ l.length ≤ 8) then 1 else if areOk l = false then 4 else if k < 0 ∨ (l.length : Int) < k then 1 else 0

set_option maxHeartbeats 4000000 in
theorem Check_any (w : World) (v : Value) (l : List ByteArray) (k : Int) (hv : RdS w v l) (hn : l.length ≤ 17592186044416) :
    Calls Try.prog 14 #[.agg #[v, .int .i64 k]] w fun e w' => e = .returned (.int .i64 (chk l k)) ∧ Below w.heap.size w w' := by
  have HA : Hid (∀ W, Below w.heap.size w W → Calls Try.prog 26 #[v] W fun e w' => e = .returned (.bool (areOk l)) ∧ w' = W) := fun W hW => areNames_any W v l (hv.below hW) hn
  have HB := Hid.mk' ((Below.refl w.heap.size w).alloc (Nat.le_refl _) (.cells #[v, .int .i64 k] 30))
  have HA1 := Hid.mk' (HA.out _ HB.out)
  obtain ⟨a, c, rfl, hc, hr⟩ := hv
  clear HA hr
  unfold chk
  by_cases h1 : l.length < 1
  · rw [if_pos (by omega)]
    have h1' : (l.length : Int) < 1 := by omega
    go_enter Try.func14, Try.ntmps14
    go_wp2
    go_ret
    exact ⟨rfl, HB.out⟩
  by_cases h2 : 8 < l.length
  · rw [if_pos (by omega)]
    have h1' : ¬ (l.length : Int) < 1 := by omega
    have h2' : (8 : Int) < (l.length : Int) := by omega
    go_enter Try.func14, Try.ntmps14
    go_wp2
    go_ret
    exact ⟨rfl, HB.out⟩
  rw [if_neg (by omega)]
  have h1' : ¬ (l.length : Int) < 1 := by omega
  have h2' : ¬ (8 : Int) < (l.length : Int) := by omega
  cases h3 : areOk l with
  | false =>
    rw [h3] at HA1
    rw [if_pos rfl]
    go_enter Try.func14, Try.ntmps14
    go_wp2_with fail
    refine HA1.out.mono ?_
    rintro e w1 ⟨rfl, rfl⟩
    go_wp2
    go_ret
    exact ⟨rfl, HB.out⟩
  | true =>
    rw [h3] at HA1
    rw [if_neg (by decide)]
    by_cases h4 : k < 0
    · rw [if_pos (.inl h4)]
      go_enter Try.func14, Try.ntmps14
      go_wp2_with fail
      refine HA1.out.mono ?_
      rintro e w1 ⟨rfl, rfl⟩
      go_wp2
      go_ret
      exact ⟨rfl, HB.out⟩
    · by_cases h5 : (l.length : Int) < k
      · rw [if_pos (.inr h5)]
        go_enter Try.func14, Try.ntmps14
        go_wp2_with fail
        refine HA1.out.mono ?_
        rintro e w1 ⟨rfl, rfl⟩
        go_wp2
        go_ret
        exact ⟨rfl, HB.out⟩
      · rw [if_neg (by omega)]
        go_enter Try.func14, Try.ntmps14
        go_wp2_with fail
        refine HA1.out.mono ?_
        rintro e w1 ⟨rfl, rfl⟩
        go_wp2
        go_ret
        exact ⟨rfl, HB.out⟩

/-- the name that is next -/
def nm (l : List ByteArray) (k : Nat) : ByteArray := l.getD (min k (l.length - 1)) ⟨#[]⟩
theorem nm_lt {l : List ByteArray} {k : Nat} (h : k < l.length) : nm l k = l[k] := by
  unfold nm
  rw [Nat.min_eq_left (by omega)]
  simp [h]
theorem nm_last {l : List ByteArray} (h : 0 < l.length) : nm l l.length = l[l.length - 1]'(by omega) := by
  unfold nm
  rw [Nat.min_eq_right (by omega)]
  simp [show l.length - 1 < l.length by omega]
/-- At behind it -/
def nx (l : List ByteArray) (k : Nat) : Nat := if k = l.length then 0 else k + 1

set_option maxHeartbeats 4000000 in
theorem next_any (w : World) (v : Value) (l : List ByteArray) (k : Nat) (hv : RdS w v l) (hn : l.length ≤ 17592186044416) (h0 : 0 < l.length) (hk : k ≤ l.length) :
    Calls Try.prog 24 #[.agg #[v, .int .i64 (k : Int)]] w fun e w' => e = .returned (.tuple #[.string (nm l k), .int .i64 (nx l k : Int)]) ∧ Below w.heap.size w w' := by
  have HB := Hid.mk' ((Below.refl w.heap.size w).alloc (Nat.le_refl _) (.cells #[v, .int .i64 (k : Int)] 30))
  have hv1 := hv.below HB.out
  obtain ⟨a, c, rfl, hc, hr⟩ := hv1
  rcases hr with h | ⟨b, off, rfl, t, hb⟩
  · subst h; simp at h0
  clear hv
  by_cases h : k = l.length
  · have e1 := t (k - 1) (by omega)
    have hnm : nm l k = l[k - 1]'(by omega) := by subst h; exact nm_last h0
    have hnx : nx l k = 0 := if_pos h
    have hk1 : (k : Int) - 1 = ((k - 1 : Nat) : Int) := by omega
    have hk2 : ((k : Int) - 1).toNat = k - 1 := by omega
    rw [hnm, hnx]
    generalize l[k - 1]'(by omega) = x at *
    subst h
    clear t hnm hnx
    go_enter Try.func24, Try.ntmps24
    go_wp2
    go_ret2
    exact ⟨rfl, HB.out⟩
  · have hlt : k < l.length := by omega
    have e1 := t k hlt
    have hnm : nm l k = l[k] := nm_lt hlt
    have hnx : nx l k = k + 1 := if_neg h
    rw [hnm, hnx]
    have hne : ((k : Int) == (l.length : Int)) = false := by apply beq_false_of_ne; omega
    generalize l[k] = x at *
    clear t hnm hnx
    go_enter Try.func24, Try.ntmps24
    go_wp2_with fail
    go_quiet (fail)
    go_wp2
    go_ret2
    exact ⟨by simp, below_drewN HB.out _⟩
end Go.Proofs.Ytgghplfcdkedcaa.W
