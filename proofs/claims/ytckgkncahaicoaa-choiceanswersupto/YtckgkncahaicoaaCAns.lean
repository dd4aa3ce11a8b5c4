/-
  Contract of choice.Answer; conditions: at most 2^44 names, no text longer than an int tells.
-/
import Derived.Test.YtckgkncahaicoaaCRead
namespace Go.Proofs.Ytckgkncahaicoaa.C
open Go.RowKit Go.Lib Go.Proofs.Ytckgkncahaicoaa Go.Proofs.Ytckgkncahaicoaa.W Go.Proofs.Ytckgkncahaicoaa.Q

theorem asked_ok {d : List UInt8} (h : (asked d).1 = 0) : (∀ x ∈ (asked d).2, nameOk x = true) ∧ (asked d).2.length ≤ 8 := by
  match d with
  | [] => simp [asked] at h
  | [x] => simp [asked] at h
  | a :: c :: s =>
    rw [asked] at h ⊢
    split at h
    · rename_i hh
      rw [if_pos hh]
      unfold askedL at h ⊢
      split at h
      · rename_i h1
        split at h
        · rename_i h2
          rw [if_pos h1, if_pos h2]
          refine ⟨fun x hx => ?_, by simpa using h2⟩
          simp only [List.mem_map] at hx
          obtain ⟨p, hp, rfl⟩ := hx
          exact List.all_eq_true.1 h1 p hp
        · cases h
      · cases h
    · cases h
theorem asked_err (d : List UInt8) : (asked d).1 = 0 ∨ (asked d).1 = 2 ∨ (asked d).1 = 4 := by
  match d with
  | [] => simp [asked]
  | [x] => simp [asked]
  | a :: c :: s =>
    rw [asked]
    unfold askedL
    split
    · split
      · split <;> simp
      · simp
    · simp
/-- what Answer answers -/
def ansT (may : List ByteArray) (d : List UInt8) : ByteArray × ByteArray × Int :=
  if (asked d).1 = 0 then match pick may (asked d).2 with
    | some x => (bs (2 :: x.1.data.toList), x.2, 0)
    | none => (⟨#[3]⟩, ⟨#[]⟩, 0)
  else (⟨#[]⟩, ⟨#[]⟩, (asked d).1)
theorem ansT_err {may : List ByteArray} {d : List UInt8} (h : (asked d).1 ≠ 0) : ansT may d = (⟨#[]⟩, ⟨#[]⟩, (asked d).1) := if_neg h
theorem ansT_some {may : List ByteArray} {d : List UInt8} (h : (asked d).1 = 0) {n m : ByteArray} (hp : pick may (asked d).2 = some (n, m)) : ansT may d = (bs (2 :: n.data.toList), m, 0) := by
  unfold ansT
  rw [if_pos h, hp]
theorem ansT_none {may : List ByteArray} {d : List UInt8} (h : (asked d).1 = 0) (hp : pick may (asked d).2 = none) : ansT may d = (⟨#[3]⟩, ⟨#[]⟩, 0) := by
  unfold ansT
  rw [if_pos h, hp]
theorem two_app (n : ByteArray) : (⟨#[2]⟩ : ByteArray) ++ n = bs (2 :: n.data.toList) := by
  have := bs_app [2] n.data.toList
  rw [bs_data] at this
  exact this

def AState (w1 : World) (may l : List ByteArray) (s23 : Value) (wr : World) : Prop :=
  ∃ k : Nat, k ≤ l.length ∧ s23 = .int .i64 (k : Int) ∧ Hid (∀ a (_ : a < k) (h : a < l.length), firstL may l[a] = none) ∧ Hid (Below w1.heap.size w1 wr)

set_option maxHeartbeats 4000000 in
set_option maxRecDepth 100000 in
theorem Answer_any (w : World) (v : Value) (may : List ByteArray) (d : List UInt8) (hv : RdS w v may) (hn : may.length ≤ 17592186044416) (hz : ∀ k (h : k < may.length), (may[k]).size ≤ 9223372036854775807) (hd : d.length ≤ 9223372036854775807) :
    Calls Try.prog 11 #[v, .string (bs d)] w fun e w' => e = .returned (.tuple #[.string (ansT may d).1, .string (ansT may d).2.1, .int .i64 (ansT may d).2.2]) ∧ Below w.heap.size w w' := by
  have H1 := Hid.mk' (readAsk_any d w hd)
  have HFL : Hid (∀ W, Below w.heap.size w W → ∀ x, Calls Try.prog 23 #[v, .string x] W fun e w' => e = .returned (.tuple #[.string (nmOf (firstL may x)), .bool (firstL may x).isSome]) ∧ ∃ n, w' = W.drewN n) := fun W hW x => firstLike_any W v may x (hv.below hW) hn hz
  obtain ⟨va, vc, rfl, _, _⟩ := hv
  generalize bs d = D at *
  by_cases he : (asked d).1 = 0
  · have HOK := Hid.mk' (asked_ok he)
    have HSM : Hid (∀ n m, pick may (asked d).2 = some (n, m) → ansT may d = (bs (2 :: n.data.toList), m, 0)) := fun n m h => ansT_some he h
    have HNO : Hid (pick may (asked d).2 = none → ansT may d = (⟨#[3]⟩, ⟨#[]⟩, 0)) := fun h => ansT_none he h
    rw [he] at H1
    have HPS := Hid.mk' (pick_some may (asked d).2)
    have HPN := Hid.mk' (pick_none may (asked d).2)
    generalize ansT may d = R at *
    generalize hL : (asked d).2 = L at *
    clear hL he
    obtain ⟨r1, r2, r3⟩ := R
    go_enter Try.func11, Try.ntmps11
    go_wp2_with fail
    refine H1.out.mono ?_
    rintro e w1 ⟨v1, rfl, hv1, hb1⟩
    obtain ⟨a, c, rfl, hc, hr⟩ := hv1
    have HB1 := Hid.mk' hb1
    have hs1 := hb1.size
    clear hb1 H1
    go_wp2_with fail
    go_loopw [23] (fun s23 wr => AState w1 may L s23 wr) (fun i _ => L.length - (RowKit.intOf i).toNat)
    case atStart => exact ⟨0, Nat.zero_le _, rfl, fun a h => absurd h (Nat.not_lt_zero a), Below.refl _ _⟩
    case round =>
      obtain ⟨k, hk, rfl, HO, HB⟩ := hrel
      have HB2 : Hid (Below w.heap.size w wr) := HB1.out.trans (HB.out.mono hs1)
      by_cases hlt : k < L.length
      · rcases hr with h0 | ⟨b1, o1, rfl, t1, hb1⟩
        · subst h0; simp at hlt
        have e1 : wr.cell? ⟨b1, o1 + k, none⟩ = some (.string L[k]) := (HB.out.cell (p := ⟨b1, o1 + k, none⟩) hb1).trans (t1 k hlt)
        have H2 := Hid.mk' (HFL.out wr HB2.out L[k])
        have hsz := (nameOk_size (HOK.out.1 L[k] (List.getElem_mem hlt))).2
        have hap := two_app L[k]
        have hL8 := HOK.out.2
        clear t1 HFL HOK HNO HPN
        cases hf : firstL may L[k] with
        | some m =>
          have hp := HPS.out k hlt m hf (fun a ha => HO.out a ha (by omega))
          have er := HSM.out _ _ hp
          simp only [Prod.mk.injEq] at er
          obtain ⟨er, rfl, rfl⟩ := er
          rw [← er] at hap
          rw [hf] at H2
          clear HPS HSM HO hp er hf
          generalize L[k] = x at *
          go_wp2_with fail
          refine H2.out.mono ?_
          rintro e w2 ⟨rfl, n, hw2⟩
          have HB3 : Hid (Below w.heap.size w w2) := by rw [hw2]; exact below_drewN HB2.out n
          clear hw2
          go_wp2
          go_ret3
          exact ⟨rfl, HB3.out⟩
        | none =>
          have HO2 : Hid (∀ a (_ : a < k + 1) (h : a < L.length), firstL may L[a] = none) := fun a ha h => by
            by_cases e : a = k
            · subst e; exact hf
            · exact HO.out a (by omega) h
          rw [hf] at H2
          clear HPS HSM HO hf hap
          generalize L[k] = x at *
          go_wp2_with fail
          refine H2.out.mono ?_
          rintro e w2 ⟨rfl, n, hw2⟩
          have HB3 : Hid (Below w1.heap.size w1 w2) := by rw [hw2]; exact below_drewN HB.out n
          clear hw2
          go_wp2
          go_roundw
          case rel => exact ⟨k + 1, by omega, by go_num, HO2, HB3⟩
          case measure => simp [RowKit.intOf]; omega
      · obtain rfl : k = L.length := by omega
        have er := HNO.out (HPN.out (fun a ha => HO.out a ha ha))
        simp only [Prod.mk.injEq] at er
        obtain ⟨rfl, rfl, rfl⟩ := er
        clear HNO HPN HPS HSM HO HOK HFL hr
        go_wp2
        go_ret3
        exact ⟨rfl, HB2.out⟩
  · rw [ansT_err he]
    have hee := asked_err d
    generalize (asked d).1 = r at *
    generalize (asked d).2 = L at *
    have hne : r = 2 ∨ r = 4 := by omega
    clear hee HFL
    rcases hne with rfl | rfl
    all_goals (
      go_enter Try.func11, Try.ntmps11
      go_wp2_with fail
      refine H1.out.mono ?_
      rintro e w1 ⟨v1, rfl, _, hb1⟩
      have HB1 := Hid.mk' hb1
      clear hb1 H1
      go_wp2
      go_ret3
      exact ⟨rfl, HB1.out⟩)
end Go.Proofs.Ytckgkncahaicoaa.C
