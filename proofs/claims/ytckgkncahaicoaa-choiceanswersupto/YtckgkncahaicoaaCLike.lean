/-
  Contracts of choice.capital, like and firstLike; condition: at most 2^44 names.
-/
import Derived.Test.YtckgkncahaicoaaCStr
import Derived.Deep.LoopGhost
namespace Go.Proofs.Ytckgkncahaicoaa.C
open Go.RowKit Go.Lib Go.Proofs.Ytckgkncahaicoaa Go.Proofs.Ytckgkncahaicoaa.W Go.Proofs.Ytckgkncahaicoaa.Q

set_option maxHeartbeats 1000000 in
theorem capital_any (b : UInt8) (w : World) : Calls Try.prog 42 #[.int .u8 (b.toNat : Int)] w fun e w' => e = .returned (.int .u8 ((cap b).toNat : Int)) ∧ w' = w := by
  have hb := b.toNat_lt
  by_cases h : 97 ≤ b.toNat ∧ b.toNat ≤ 122
  · have e : ((cap b).toNat : Int) = (b.toNat : Int) - 32 := by rw [cap_all, if_pos h]; omega
    rw [e]
    have q1 : (97 : Int) ≤ (b.toNat : Int) := by omega
    have q2 : (b.toNat : Int) ≤ 122 := by omega
    have q3 : (b.toNat : Int) - 97 + 65 = (b.toNat : Int) - 32 := by omega
    clear e h hb
    generalize (b.toNat : Int) = x at *
    go_enter Try.func42, Try.ntmps42
    go_wp2
    go_ret
    exact ⟨by first | rfl | (congr 2), rfl⟩
  · have e : ((cap b).toNat : Int) = (b.toNat : Int) := by rw [cap_all, if_neg h]
    rw [e]
    by_cases h1 : 97 ≤ b.toNat
    · have q1 : (97 : Int) ≤ (b.toNat : Int) := by omega
      have q2 : ¬ (b.toNat : Int) ≤ 122 := by omega
      clear e h hb
      generalize (b.toNat : Int) = x at *
      go_enter Try.func42, Try.ntmps42
      go_wp2
      go_ret
      exact ⟨rfl, rfl⟩
    · have q1 : ¬ (97 : Int) ≤ (b.toNat : Int) := by omega
      clear e h hb
      generalize (b.toNat : Int) = x at *
      go_enter Try.func42, Try.ntmps42
      go_wp2
      go_ret
      exact ⟨rfl, rfl⟩

theorem cap_ne {a b : UInt8} (h : cap a ≠ cap b) : (((cap a).toNat : Int) == ((cap b).toNat : Int)) = false := by
  apply beq_false_of_ne
  intro e
  exact h (UInt8.toNat_inj.1 (Int.ofNat_inj.1 e))

set_option maxHeartbeats 4000000 in
theorem like_any (a b : ByteArray) (w : World) (hz : a.size ≤ 9223372036854775807) : Calls Try.prog 35 #[.string a, .string b] w fun e w' => e = .returned (.bool (like a b)) ∧ ∃ n, w' = w.drewN n := by
  by_cases hs : a.size = b.size
  · have HT : Hid ((∀ k (h : k < a.size) (h2 : k < b.size), cap a[k] = cap b[k]) → like a b = true) := fun h => like_yes hs h
    have HF : Hid (∀ k (h : k < a.size) (h2 : k < b.size), cap a[k] ≠ cap b[k] → like a b = false) := fun k h h2 hn => like_no k h h2 hn
    have HC := Hid.mk' capital_any
    have hs' : ((a.size : Int) == (b.size : Int)) = true := by rw [hs]; simp
    generalize like a b = R at *
    go_enter Try.func35, Try.ntmps35
    go_wp2_with fail
    go_loopw [13] (fun s13 wr => ∃ k q : Nat, k ≤ a.size ∧ s13 = .int .i64 (k : Int) ∧ Hid (∀ j (_ : j < k) (h : j < a.size) (h2 : j < b.size), cap a[j] = cap b[j]) ∧ wr = w.drewN q) (fun i _ => a.size - (RowKit.intOf i).toNat)
    case atStart => exact ⟨0, 0, Nat.zero_le _, rfl, fun a h => absurd h (Nat.not_lt_zero a), rfl⟩
    case round =>
      obtain ⟨k, q, hk, rfl, HO, rfl⟩ := hrel
      have HD : Hid (∀ n, ∃ q', (w.drewN q).drewN n = w.drewN q') := fun n => ⟨_, World.drewN_drewN w q n⟩
      generalize w.drewN q = W at *
      by_cases hlt : k < a.size
      · have hlt2 : k < b.size := by omega
        have H1 := Hid.mk' (HC.out a[k])
        have H2 := Hid.mk' (HC.out b[k])
        have k1 : (k : Int) < (a.size : Int) := by omega
        have k2 : (k : Int) < (b.size : Int) := by omega
        clear HC
        by_cases he : cap a[k] = cap b[k]
        · have HO2 : Hid (∀ j (_ : j < k + 1) (h : j < a.size) (h2 : j < b.size), cap a[j] = cap b[j]) := fun j hj h h2 => by
            by_cases e : j = k
            · subst e; exact he
            · exact HO.out j (by omega) h h2
          rw [he] at H1
          clear he HT HF HO
          generalize ((cap b[k]).toNat : Int) = y at *
          go_wp2_with fail
          go_quiet ((go_at_call 42; first | with_reducible exact Calls.quiet_of_same (H1.out _) | with_reducible exact Calls.quiet_of_same (H2.out _)))
          go_wp2
          go_roundw
          case rel => obtain ⟨q', e⟩ := HD.out nq; exact ⟨k + 1, q', by omega, by go_num, HO2, e⟩
          case measure => simp [RowKit.intOf]; omega
        · have e : R = false := HF.out k hlt hlt2 he
          subst e
          have hne := cap_ne he
          clear he HT HF HO
          generalize ((cap a[k]).toNat : Int) = x at *
          generalize ((cap b[k]).toNat : Int) = y at *
          go_wp2_with fail
          go_quiet ((go_at_call 42; first | with_reducible exact Calls.quiet_of_same (H1.out _) | with_reducible exact Calls.quiet_of_same (H2.out _)))
          go_wp2
          go_ret
          obtain ⟨q', e⟩ := HD.out nq
          exact ⟨rfl, q', e⟩
      · obtain rfl : k = a.size := by omega
        have e : R = true := HT.out (fun j h h2 => HO.out j h h h2)
        subst e
        clear HT HF HO HC
        go_wp2
        go_ret
        obtain ⟨q', e⟩ := HD.out 0
        exact ⟨rfl, q', e⟩
  · rw [like_size hs]
    have hs' : ((a.size : Int) == (b.size : Int)) = false := by apply beq_false_of_ne; omega
    go_enter Try.func35, Try.ntmps35
    go_wp2
    go_ret
    exact ⟨rfl, 0, rfl⟩

/-- the name, or none -/
def nmOf (o : Option ByteArray) : ByteArray := o.getD ⟨#[]⟩

set_option maxHeartbeats 4000000 in
theorem firstLike_any (w : World) (v : Value) (l : List ByteArray) (x : ByteArray) (hv : RdS w v l) (hn : l.length ≤ 17592186044416) (hz : ∀ k (h : k < l.length), (l[k]).size ≤ 9223372036854775807) :
    Calls Try.prog 23 #[v, .string x] w fun e w' => e = .returned (.tuple #[.string (nmOf (firstL l x)), .bool (firstL l x).isSome]) ∧ ∃ n, w' = w.drewN n := by
  have HF : Hid (∀ k (h : k < l.length), like l[k] x = true → (∀ a (ha : a < k), like l[a] x = false) → firstL l x = some l[k]) := fun k h he hn => firstL_some l x k h he hn
  have HN : Hid ((∀ k (h : k < l.length), like l[k] x = false) → firstL l x = none) := fun h => firstL_none l x h
  have HL : Hid (∀ k (h : k < l.length) W, Calls Try.prog 35 #[.string l[k], .string x] W fun e w' => e = .returned (.bool (like l[k] x)) ∧ ∃ n, w' = W.drewN n) := fun k h W => like_any l[k] x W (hz k h)
  obtain ⟨a, c, rfl, hc, hr⟩ := hv
  generalize firstL l x = R at *
  generalize hr1 : nmOf R = r1 at *
  generalize hr2 : R.isSome = r2 at *
  go_enter Try.func23, Try.ntmps23
  go_wp2_with fail
  go_loopw [10] (fun s10 wr => ∃ k q : Nat, k ≤ l.length ∧ s10 = .int .i64 (k : Int) ∧ Hid (∀ a (_ : a < k) (h : a < l.length), like l[a] x = false) ∧ wr = w.drewN q) (fun i _ => l.length - (RowKit.intOf i).toNat)
  case atStart => exact ⟨0, 0, Nat.zero_le _, rfl, fun a h => absurd h (Nat.not_lt_zero a), rfl⟩
  case round =>
    obtain ⟨k, q, hk, rfl, HO, rfl⟩ := hrel
    have HD : Hid (∀ n, ∃ q', (w.drewN q).drewN n = w.drewN q') := fun n => ⟨_, World.drewN_drewN w q n⟩
    by_cases hlt : k < l.length
    · rcases hr with h0 | ⟨b1, o1, rfl, t1, _⟩
      · subst h0; simp at hlt
      have e1 : (w.drewN q).cell? ⟨b1, o1 + k, none⟩ = some (.string l[k]) := by rw [World.cell?_drewN]; exact t1 k hlt
      generalize w.drewN q = W at *
      have H1 := Hid.mk' (HL.out k hlt W)
      clear t1 HL hz
      cases he : like l[k] x with
      | true =>
        have e : R = some l[k] := HF.out k hlt he (fun a ha => HO.out a ha (by omega))
        subst e
        have er : l[k] = r1 := hr1
        obtain rfl : true = r2 := hr2
        clear hr1
        rw [he] at H1
        clear HF HN HO he
        generalize l[k] = y at *
        subst er
        go_wp2_with fail
        refine H1.out.mono ?_
        rintro e w1 ⟨rfl, n, rfl⟩
        go_wp2
        go_ret2
        exact ⟨rfl, HD.out n⟩
      | false =>
        have HO2 : Hid (∀ a (_ : a < k + 1) (h : a < l.length), like l[a] x = false) := fun a ha h => by
          by_cases e : a = k
          · subst e; exact he
          · exact HO.out a (by omega) h
        rw [he] at H1
        clear HF HN HO he
        generalize l[k] = y at *
        go_wp2_with fail
        refine H1.out.mono ?_
        rintro e w1 ⟨rfl, n, rfl⟩
        go_wp2
        go_roundw
        case rel => obtain ⟨q', e⟩ := HD.out n; exact ⟨k + 1, q', by omega, by go_num, HO2, e⟩
        case measure => simp [RowKit.intOf]; omega
    · obtain rfl : k = l.length := by omega
      have e : R = none := HN.out (fun a ha => HO.out a ha ha)
      subst e
      obtain rfl : ⟨#[]⟩ = r1 := hr1
      obtain rfl : false = r2 := hr2
      clear HF HN HO hr HL
      go_wp2
      go_ret2
      obtain ⟨q', e⟩ := HD.out 0
      exact ⟨rfl, q', e⟩
end Go.Proofs.Ytckgkncahaicoaa.C
