/-
  Contracts of farref.KeyOf, of farref.Bytes at one byte, of strings.TrimRight at a blank and strings.LastIndexByte; conditions: texts of at most 2^62 bytes.
-/
import Derived.Test.YtomgnnbcaficaaaDoorKRef
import Derived.Test.YtomgnnbcaficaaaDoorLTyped
import Derived.Deep.LoopGhost
namespace Go.Proofs.YtomgnnbcaficaaaDoor.L
open Go.RowKit Go.Lib Go.Proofs.YtomgnnbcaficaaaDoor Go.Proofs.YtomgnnbcaficaaaDoor.W Go.Proofs.YtomgnnbcaficaaaDoor.Q

/-- the number of a function's key -/
def keyI (k : List UInt8) (f : Nat) : Int := if ((K.lv k f).toNat : Int) = 0 then -1 else ((K.ch k f).toNat : Int)
theorem keyI_is (k : List UInt8) (f : Nat) (c : UInt8) : ((c.toNat : Int) == keyI k f) = isK k f c := by
  unfold keyI isK
  have h0 := K.eq0_iff (K.lv k f)
  have hc := UInt8.toNat_inj (a := K.ch k f) (b := c)
  by_cases h : ((K.lv k f).toNat : Int) = 0
  · rw [if_pos h, decide_eq_false (fun e => e.1 (h0.2 h))]
    exact beq_false_of_ne (by omega)
  · rw [if_neg h]
    by_cases h1 : K.ch k f = c
    · rw [decide_eq_true ⟨fun e => h (h0.1 e), h1⟩, h1]
      exact beq_self_eq_true _
    · rw [decide_eq_false (fun e => h1 e.2)]
      exact beq_false_of_ne (fun e => h1 (hc.1 (by omega)))

set_option maxHeartbeats 4000000 in
set_option maxRecDepth 100000 in
theorem KeyOf_any (k : List UInt8) (hk : k.length = 38) (f : Nat) (hf : f < 19) (w : World) : Calls Tryd.prog 18 #[.agg (bcells k).toArray, .int .i64 (f : Int)] w fun e w' => e = .returned (.int .i64 (keyI k f)) ∧ Below w.heap.size w w' := by
  have c1 := K.bcells_lv k hk f hf
  have c2 := K.bcells_ch k hk f hf
  have hb := (K.ch k f).toNat_lt
  have n0 : (0 : Int) ≤ (f : Int) := by omega
  have n1 : (f : Int) < 19 := by omega
  unfold keyI
  generalize bcells k = l at *
  generalize hx : ((K.lv k f).toNat : Int) = x at *
  generalize hy : (K.ch k f).toNat = y at *
  clear hx hy
  by_cases h : x = 0
  · rw [if_pos h]
    subst h
    go_enter Tryd.func18, Tryd.ntmps18
    go_wp2_with (refine wpList_box l 26 rfl _ rfl rfl ?_)
    intro w1 m1
    have e1 := m1.box.cell c1
    have e2 := m1.box.cell c2
    have HB := Hid.mk' (m1.below _ _ (Nat.le_refl _) (Below.refl _ w))
    clear m1 c1 c2
    go_wp2
    go_ret
    exact ⟨rfl, HB.out⟩
  · rw [if_neg h]
    go_enter Tryd.func18, Tryd.ntmps18
    go_wp2_with (refine wpList_box l 26 rfl _ rfl rfl ?_)
    intro w1 m1
    have e1 := m1.box.cell c1
    have e2 := m1.box.cell c2
    have HB := Hid.mk' (m1.below _ _ (Nat.le_refl _) (Below.refl _ w))
    clear m1 c1 c2
    go_wp2
    go_ret
    exact ⟨rfl, HB.out⟩
theorem Bytes_one (c : UInt8) (W : World) : Calls Tryd.prog 43 #[.slice (some ⟨W.heap.size, 0, none⟩) 1 1] (W.alloc (.cells #[.int .i64 (c.toNat : Int)] 3)) fun e w' => e = .returned (.string (bs [c])) ∧ Below W.heap.size W w' := by
  have hb := Box.new W 3 [.int .i64 (c.toNat : Int)]
  have h := K.Bytes_any [c] W.heap.size 1 (W.alloc (.cells #[.int .i64 (c.toNat : Int)] 3)) (by simp) (fun k hk => by
    have : k = 0 := by simpa using hk
    subst this
    exact hb.cell rfl) (by simp)
  refine h.mono fun e w' ⟨h1, h2⟩ => ⟨h1, Below.trans ((Below.refl _ W).alloc (Nat.le_refl _) _) (Below.mono h2 (by simp))⟩

theorem take_get (l : List UInt8) (m : Nat) (h : m < l.length) : (bs (l.take (m + 1))).size = m + 1 ∧ (∀ h2 : m < (bs (l.take (m + 1))).size, (bs (l.take (m + 1)))[m]'h2 = l[m]'h) ∧ (bs (l.take (m + 1))).extract 0 m = bs (l.take m) := by
  refine ⟨by rw [bs_size, List.length_take]; omega, fun h2 => ?_, ?_⟩
  · rw [bs_get _ m (by rw [List.length_take]; omega)]
    simp
  · rw [show bs (l.take (m + 1)) = (⟨(l.take (m + 1)).toArray⟩ : ByteArray) from rfl, extract_mk, List.drop_zero, Nat.sub_zero, List.take_take, Nat.min_eq_left (by omega)]
    rfl

set_option maxHeartbeats 4000000 in
set_option maxRecDepth 100000 in
theorem strTrim0_any (l : List UInt8) (hl : l.length ≤ 1000000) (w : World) :
    Calls Tryd.prog 57 #[.string (bs l), .int .u8 32] w fun e w' => e = .returned (.string (bs (l.take (tz l l.length)))) ∧ w' = w := by
  have HSU := Hid.mk' (tz_succ l)
  have HZ := Hid.mk' (tz_zero l)
  have HRES : Hid (∀ n, tz l n = tz l l.length → tz l n = n → bs (l.take (tz l l.length)) = bs (l.take n)) := fun n h1 h2 => by rw [← h1, h2]
  have HTL : Hid (bs (l.take l.length) = bs l) := by rw [Hid, List.take_length]
  generalize hR : bs (l.take (tz l l.length)) = R at *
  clear hR
  generalize hS : bs l = S at *
  go_enter Tryd.func57, Tryd.ntmps57
  go_wp2_with fail
  go_loopg [0] l.length (fun g s0 wr => ∃ n, n ≤ l.length ∧ n ≤ g ∧ s0 = .string (bs (l.take n)) ∧ Hid (tz l n = tz l l.length) ∧ wr = w)
  case atStart => exact ⟨l.length, Nat.le_refl _, Nat.le_refl _, by rw [HTL.out], rfl, rfl⟩
  case round =>
    obtain ⟨n, hn, hg, rfl, HSZ, rfl⟩ := hrel
    clear HTL
    cases n with
    | zero =>
      have HQ := Hid.mk' (HRES.out 0 HSZ.out HZ.out)
      have hz : (bs (l.take 0)).size = 0 := rfl
      generalize bs (l.take 0) = A at *
      clear HSU HRES HSZ HZ
      go_wp2
      go_ret
      exact ⟨by rw [HQ.out]; rfl, rfl⟩
    | succ m =>
      have hml : m < l.length := by omega
      obtain ⟨hz, hi, he⟩ := take_get l m hml
      have hi2 := hi (by rw [hz]; omega)
      have hs := HSU.out m hml
      by_cases h0 : l[m]'hml = 32
      · rw [if_pos h0] at hs
        rw [h0] at hi2
        have HN : Hid (tz l m = tz l l.length) := by rw [Hid, ← hs]; exact HSZ.out
        clear hi hs h0 HSU HRES HSZ HZ hml
        generalize bs (l.take (m + 1)) = A at *
        generalize hB : bs (l.take m) = B at *
        go_wp2
        go_roundg m
        case measure => omega
        case rel => exact ⟨m, by omega, Nat.le_refl _, by rw [hB], HN, rfl⟩
      · rw [if_neg h0] at hs
        have HQ := Hid.mk' (HRES.out (m + 1) HSZ.out hs)
        have h0' : ¬ ((l[m]'hml).toNat : Int) = 32 := fun e => h0 (by
          apply UInt8.toNat_inj.1
          have : (32 : UInt8).toNat = 32 := rfl
          omega)
        generalize l[m]'hml = b at *
        clear hi hs h0 HSU HRES HSZ he HZ hml
        generalize bs (l.take (m + 1)) = A at *
        go_wp2
        go_ret
        exact ⟨by rw [HQ.out]; rfl, rfl⟩

set_option maxHeartbeats 4000000 in
set_option maxRecDepth 100000 in
theorem strTrim_any (l : List UInt8) (hl : l.length ≤ 1000000) (w : World) :
    Calls Tryd.prog 44 #[.string (bs l), .string { data := #[32] }] w fun e w' => e = .returned (.string (bs (l.take (tz l l.length)))) ∧ w' = w := by
  have H1 := Hid.mk' (strTrim0_any l hl w)
  have hz : ({ data := #[32] } : ByteArray).size = 1 := rfl
  have hg : ({ data := #[32] } : ByteArray)[0]'(by rw [hz]; omega) = 32 := rfl
  have ht : ({ data := #[32] } : ByteArray).toList.isEmpty = false := by rw [ByteArray.toList_eq]; rfl
  cases hl0 : l with
  | nil =>
    have e2 : bs [] = ({ data := #[] } : ByteArray) := rfl
    rw [show ([] : List UInt8).take (tz [] ([] : List UInt8).length) = [] from List.take_nil, e2]
    generalize ({ data := #[32] } : ByteArray) = T at *
    go_enter Tryd.func44, Tryd.ntmps44
    go_wp2
    go_ret
    exact ⟨rfl, rfl⟩
  | cons a r =>
    rw [← hl0]
    have hne : (bs l).toList.isEmpty = false := by rw [bs_list, hl0]; rfl
    clear hl0
    generalize bs (l.take (tz l l.length)) = R at *
    generalize bs l = S at *
    generalize ({ data := #[32] } : ByteArray) = T at *
    go_enter Tryd.func44, Tryd.ntmps44
    go_wp2_with fail
    refine H1.out.mono ?_
    rintro e w1 ⟨rfl, rfl⟩
    go_wp2
    go_ret
    exact ⟨rfl, rfl⟩

set_option maxHeartbeats 4000000 in
set_option maxRecDepth 100000 in
theorem strLast0_any (l : List UInt8) (hl : l.length ≤ 1000000) (w : World) :
    Calls Tryd.prog 60 #[.string (bs l), .int .u8 32] w fun e w' => e = .returned (.int .i64 ((lw l l.length : Int) - 1)) ∧ w' = w := by
  have HZ := Hid.mk' (lw_zero l)
  have HS : Hid (∀ n (h : n < l.length), lw l (n + 1) = if l[n]'h = 32 then n + 1 else lw l n) := fun n h => lw_succ l n h
  have hsz := bs_size l
  have HGT : Hid (∀ n (h : n < l.length) (h2 : n < (bs l).size), (bs l)[n]'h2 = l[n]'h) := fun n h h2 => bs_get l n h h2
  generalize hR : lw l l.length = R
  have HST : Hid (lw l l.length = R) := hR
  clear hR
  generalize bs l = S at *
  go_enter Tryd.func60, Tryd.ntmps60
  go_wp2_with fail
  go_loopg [5] l.length (fun g s5 wr => ∃ n, n ≤ l.length ∧ n ≤ g ∧ s5 = .int .i64 ((n : Int) - 1) ∧ Hid (lw l n = R) ∧ wr = w)
  case atStart => exact ⟨l.length, Nat.le_refl _, Nat.le_refl _, rfl, HST, rfl⟩
  case round =>
    obtain ⟨n, hn, hg, rfl, HSZ, rfl⟩ := hrel
    clear HST
    cases n with
    | zero =>
      have HQ : Hid (R = 0) := HSZ.out.symm.trans HZ.out
      clear HS HGT HSZ
      go_wp2
      go_ret
      exact ⟨by rw [HQ.out]; rfl, rfl⟩
    | succ m =>
      have hml : m < l.length := by omega
      have hs := HS.out m hml
      have hgt := HGT.out m hml (by rw [hsz]; exact hml)
      have e5 : (((m + 1 : Nat) : Int) - 1) = (m : Int) := by omega
      rw [e5]
      by_cases h0 : l[m]'hml = 32
      · rw [if_pos h0] at hs
        rw [h0] at hgt
        have HQ : Hid (R = m + 1) := by rw [Hid, ← HSZ.out, hs]
        clear hs h0 HS HGT HSZ e5
        go_wp2
        go_ret
        exact ⟨by rw [HQ.out, show (((m + 1 : Nat) : Int) - 1) = (m : Int) by omega]; rfl, rfl⟩
      · rw [if_neg h0] at hs
        have HN2 : Hid (lw l m = R) := by rw [Hid, ← hs]; exact HSZ.out
        have h0' : ¬ ((l[m]'hml).toNat : Int) = 32 := fun e => h0 (by
          apply UInt8.toNat_inj.1
          have : (32 : UInt8).toNat = 32 := rfl
          omega)
        generalize l[m]'hml = b at *
        clear hs h0 HS HGT HSZ e5
        go_wp2
        go_roundg m
        case measure => omega
        case rel => exact ⟨m, by omega, Nat.le_refl _, by first | rfl | go_num, HN2, rfl⟩

set_option maxHeartbeats 4000000 in
set_option maxRecDepth 100000 in
theorem strLast_any (l : List UInt8) (hl : l.length ≤ 1000000) (w : World) :
    Calls Tryd.prog 45 #[.string (bs l), .int .u8 32] w fun e w' => e = .returned (.int .i64 ((lw l l.length : Int) - 1)) ∧ w' = w := by
  have H1 := Hid.mk' (strLast0_any l hl w)
  generalize ((lw l l.length : Int) - 1) = R at *
  generalize bs l = S at *
  clear hl
  go_enter Tryd.func45, Tryd.ntmps45
  go_wp2_with fail
  refine H1.out.mono ?_
  rintro e w1 ⟨rfl, rfl⟩
  go_wp2
  go_ret
  exact ⟨rfl, rfl⟩
end Go.Proofs.YtomgnnbcaficaaaDoor.L
