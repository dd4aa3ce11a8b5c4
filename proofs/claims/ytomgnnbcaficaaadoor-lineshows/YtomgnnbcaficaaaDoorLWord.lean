/-
  Contracts of bytes.TrimRight at a blank, bytes.LastIndexByte and wordStart; conditions: bytes that lie where a slice says.
-/
import Derived.Test.YtomgnnbcaficaaaDoorLCut
namespace Go.Proofs.YtomgnnbcaficaaaDoor.L
open Go.RowKit Go.Lib Go.Proofs.YtomgnnbcaficaaaDoor Go.Proofs.YtomgnnbcaficaaaDoor.W Go.Proofs.YtomgnnbcaficaaaDoor.Q

set_option maxHeartbeats 4000000 in
set_option maxRecDepth 100000 in
theorem TrimRight_any (w : World) (ad : Option Addr) (c : Nat) (l : List UInt8) (hr : RdB w ad l) (N : Nat) (hN : N = l.length) (hc : N ≤ c) (hb : N ≤ 1000000) :
    Calls Tryd.prog 54 #[.slice ad N c, .string { data := #[32] }] w fun e w' => e = .returned (.slice ad (tz l N) c) ∧ w' = w := by
  have H1 := Hid.mk' (trimRightByte_any w ad c l hr N hN hc hb)
  have hz : ({ data := #[32] } : ByteArray).size = 1 := rfl
  have hg : ({ data := #[32] } : ByteArray)[0]'(by rw [hz]; omega) = 32 := rfl
  have ht : ({ data := #[32] } : ByteArray).toList.isEmpty = false := by rw [ByteArray.toList_eq]; rfl
  clear hr hN
  by_cases h0 : N = 0
  · subst h0
    rw [tz_zero] at *
    clear H1
    generalize ({ data := #[32] } : ByteArray) = T at *
    go_enter Tryd.func54, Tryd.ntmps54
    go_wp2
    go_ret
    exact ⟨rfl, rfl⟩
  · have h1 : ((N : Int) == 0) = false := beq_false_of_ne (by omega)
    generalize tz l N = R at *
    generalize ({ data := #[32] } : ByteArray) = T at *
    go_enter Tryd.func54, Tryd.ntmps54
    go_wp2_with fail
    refine H1.out.mono ?_
    rintro e w1 ⟨rfl, rfl⟩
    go_wp2
    go_ret
    exact ⟨rfl, rfl⟩

set_option maxHeartbeats 4000000 in
set_option maxRecDepth 100000 in
theorem LastIndex0_any (w : World) (ad : Option Addr) (c : Nat) (l : List UInt8) (hr : RdB w ad l) (N : Nat) (hN : N ≤ l.length) (hb : N ≤ 1000000) :
    Calls Tryd.prog 70 #[.slice ad N c, .int .u8 32] w fun e w' => e = .returned (.int .i64 ((lw l N : Int) - 1)) ∧ w' = w := by
  have HZ := Hid.mk' (lw_zero l)
  have HS : Hid (∀ n (h : n < l.length), lw l (n + 1) = if l[n]'h = 32 then n + 1 else lw l n) := fun n h => lw_succ l n h
  have HC : Hid (∀ n (h : n < l.length), ∃ g, ad = some ⟨g, 0, none⟩ ∧ w.cell? ⟨g, n, none⟩ = some (.int .u8 ((l[n]'h).toNat : Int))) := fun n h => by
    rcases hr with e | ⟨g, e, hcl⟩
    · subst e; simp at h
    · exact ⟨g, e, hcl n h⟩
  have HNL := Hid.mk' hN
  clear hr
  generalize hR : lw l N = R
  have HST : Hid (lw l N = R) := hR
  clear hR hN
  go_enter Tryd.func70, Tryd.ntmps70
  go_wp2_with fail
  go_loopg [5] N (fun g s5 wr => ∃ n, n ≤ N ∧ n ≤ g ∧ s5 = .int .i64 ((n : Int) - 1) ∧ Hid (lw l n = R) ∧ wr = w)
  case atStart => exact ⟨N, Nat.le_refl _, Nat.le_refl _, rfl, HST, rfl⟩
  case round =>
    obtain ⟨n, hn, hg, rfl, HSZ, rfl⟩ := hrel
    clear HST
    cases n with
    | zero =>
      have HQ : Hid (R = 0) := HSZ.out.symm.trans HZ.out
      clear HS HC HSZ
      go_wp2
      go_ret
      exact ⟨by rw [HQ.out]; rfl, rfl⟩
    | succ m =>
      have hml : m < l.length := by have := HNL.out; omega
      obtain ⟨g0, rfl, e0⟩ := HC.out m hml
      have hs := HS.out m hml
      have e5 : (((m + 1 : Nat) : Int) - 1) = (m : Int) := by omega
      rw [e5]
      by_cases h0 : l[m]'hml = 32
      · rw [if_pos h0] at hs
        rw [h0] at e0
        have HQ : Hid (R = m + 1) := by rw [Hid, ← HSZ.out, hs]
        clear hs h0 HS HC HSZ hml e5
        go_wp2
        go_ret
        exact ⟨by rw [HQ.out, show (((m + 1 : Nat) : Int) - 1) = (m : Int) by omega]; rfl, rfl⟩
      · rw [if_neg h0] at hs
        have HN2 : Hid (lw l m = R) := by rw [Hid, ← hs]; exact HSZ.out
        have h0' : ¬ ((l[m]'hml).toNat : Int) = 32 := fun e => h0 (by
          apply UInt8.toNat_inj.1
          have : (32 : UInt8).toNat = 32 := rfl
          omega)
        generalize ((l[m]'hml).toNat : Int) = y at *
        clear hs h0 HS HC HSZ hml e5
        go_wp2
        go_roundg m
        case measure => omega
        case rel => exact ⟨m, by omega, Nat.le_refl _, by first | rfl | go_num, HN2, rfl⟩

set_option maxHeartbeats 4000000 in
set_option maxRecDepth 100000 in
theorem LastIndex_any (w : World) (ad : Option Addr) (c : Nat) (l : List UInt8) (hr : RdB w ad l) (N : Nat) (hN : N ≤ l.length) (hb : N ≤ 1000000) :
    Calls Tryd.prog 55 #[.slice ad N c, .int .u8 32] w fun e w' => e = .returned (.int .i64 ((lw l N : Int) - 1)) ∧ w' = w := by
  have H1 := Hid.mk' (LastIndex0_any w ad c l hr N hN hb)
  generalize ((lw l N : Int) - 1) = R at *
  clear hr hN hb
  go_enter Tryd.func55, Tryd.ntmps55
  go_wp2_with fail
  refine H1.out.mono ?_
  rintro e w1 ⟨rfl, rfl⟩
  go_wp2
  go_ret
  exact ⟨rfl, rfl⟩

set_option maxHeartbeats 4000000 in
set_option maxRecDepth 100000 in
theorem wordStart_any (w : World) (ad : Option Addr) (c : Nat) (l : List UInt8) (hr : RdB w ad l) (N : Nat) (hN : N = l.length) (hc : N ≤ c) (hb : N ≤ 1000000) :
    Calls Tryd.prog 40 #[.slice ad N c] w fun e w' => e = .returned (.int .i64 (ws l : Int)) ∧ w' = w := by
  have H1 := Hid.mk' (TrimRight_any w ad c l hr N hN hc hb)
  have H2 := Hid.mk' (LastIndex_any w ad c l hr (tz l N) (tz_len l N) (by have := tz_le l N; omega))
  have hws : ws l = lw l (tz l N) := by unfold ws; rw [hN]
  have hb2 : lw l (tz l N) ≤ 1000000 := by have := lw_le l (tz l N); have := tz_le l N; omega
  rw [hws]
  generalize lw l (tz l N) = R at *
  generalize tz l N = T at *
  clear hr hN hws
  go_enter Tryd.func40, Tryd.ntmps40
  go_wp2_with fail
  refine H1.out.mono ?_
  rintro e w1 ⟨rfl, rfl⟩
  go_wp2_with fail
  refine H2.out.mono ?_
  rintro e w2 ⟨rfl, rfl⟩
  go_wp2
  go_ret
  exact ⟨by first | rfl | (congr 2; omega) | simp, rfl⟩
end Go.Proofs.YtomgnnbcaficaaaDoor.L
