/-
  Contract of environ.check; condition: at most 2^44 variables.
-/
import Derived.Test.YtbfiompbngpjoaaDoorEEq
namespace Go.Proofs.YtbfiompbngpjoaaDoor.E
open Go.RowKit Go.Lib Go.Proofs.YtbfiompbngpjoaaDoor Go.Proofs.YtbfiompbngpjoaaDoor.W Go.Proofs.YtbfiompbngpjoaaDoor.Q Go.Proofs.YtbfiompbngpjoaaDoor.C

/-- the state of a loop over variables: so many are as they have to be, and nothing old has changed -/
def VState (w : World) (l : List Vr) (p : Vr → Bool) (g : Nat) (s : Value) (wr : World) : Prop :=
  ∃ k : Nat, k ≤ l.length ∧ l.length - k ≤ g ∧ s = .int .i64 (k : Int) ∧ Hid (∀ a (_ : a < k) (h : a < l.length), p l[a] = false) ∧ Hid (Below w.heap.size w wr)
theorem more {l : List Vr} {p : Vr → Bool} {k : Nat} (h : ∀ a (_ : a < k) (h : a < l.length), p l[a] = false) (hk : k < l.length) (hp : p l[k] = false) : ∀ a (_ : a < k + 1) (h : a < l.length), p l[a] = false := fun a ha h2 => by
  by_cases e : a = k
  · subst e; exact hp
  · exact h a (by omega) h2
theorem bad_set {v : Vr} (h : v.set = true) : bad v = false := by unfold bad; rw [h]; rfl
theorem bad_empty {v : Vr} (h : v.value = []) : bad v = false := by unfold bad; rw [h]; simp
theorem bad_yes {v : Vr} (h : v.set = false) (h2 : v.value ≠ []) : bad v = true := by
  unfold bad
  rw [h]
  cases hv : v.value with
  | nil => exact absurd hv h2
  | cons a t => rfl
theorem bs_isEmpty (l : List UInt8) : (bs l).toList.isEmpty = l.isEmpty := by rw [bs_list]

set_option maxHeartbeats 4000000 in
set_option maxRecDepth 100000 in
theorem check_any (w : World) (v : Value) (l : List Vr) (hv : RdV w v l) (hn : l.length ≤ 17592186044416) :
    Calls Tryd.prog 14 #[v] w fun e w' => e = .returned (.int .i64 (chk l)) ∧ Below w.heap.size w w' := by
  obtain ⟨a, c, rfl, hc, hr⟩ := hv
  by_cases h20 : 20 < l.length
  · rw [chk_many h20]
    have h20' : (20 : Int) < (l.length : Int) := by omega
    clear hr
    generalize l.length = N at *
    go_enter Tryd.func14, Tryd.ntmps14
    go_wp2
    go_ret
    exact ⟨rfl, Below.refl _ _⟩
  have h20' : ¬ (20 : Int) < (l.length : Int) := by omega
  have HL : Hid (∀ k (h : k < l.length), long l[k] = true → chk l = 2) := fun k h hh => chk_long (List.getElem_mem h) hh
  have all : ∀ {p : Vr → Bool}, (∀ k (h : k < l.length), p l[k] = false) → ∀ x ∈ l, p x = false := fun h x hx => by
    obtain ⟨k, hk, e⟩ := List.mem_iff_getElem.1 hx
    rw [← e]
    exact h k hk
  have HF : Hid ((∀ k (h : k < l.length), long l[k] = false) → ∀ k (h : k < l.length), bad l[k] = true → chk l = 4) := fun h1 k h hh => chk_form (by omega) (all h1) (List.getElem_mem h) hh
  have HT : Hid ((∀ k (h : k < l.length), long l[k] = false) → (∀ k (h : k < l.length), bad l[k] = false) → chk l = 0) := fun h1 h2 => chk_ok (by omega) (all h1) (all h2)
  clear all
  generalize chk l = R at *
  go_enter Tryd.func14, Tryd.ntmps14
  go_wp2_with fail
  go_loopg [12] l.length (fun g s wr => VState w l long g s wr)
  case atStart => exact ⟨0, Nat.zero_le _, by omega, rfl, fun a h => absurd h (Nat.not_lt_zero a), Below.refl _ _⟩
  case round =>
    obtain ⟨k, hk, hg, rfl, HA, HB⟩ := hrel
    by_cases hlt : k < l.length
    · rcases hr with h0 | ⟨b, o, rfl, t, hb⟩
      · subst h0; simp at hlt
      obtain ⟨t0, t1, t2, t3⟩ := (t k hlt).below HB.out hb
      have HB2 := fun cs => Hid.mk' (HB.out.alloc HB.out.size (.cells cs 30))
      have hz0 := bs_size l[k].name
      have hz1 := bs_size l[k].value
      by_cases q1 : 200 < l[k].name.length
      · have e : R = 2 := HL.out k hlt (by unfold long; rw [decide_eq_true q1]; rfl)
        subst e
        have q1' : (200 : Int) < ((bs l[k].name).size : Int) := by omega
        clear HL HF HT HA t
        generalize bs l[k].name = x0 at *
        generalize bs l[k].value = x1 at *
        generalize l[k].user = x2 at *
        generalize l[k].set = x3 at *
        go_wp2
        go_ret
        exact ⟨rfl, (HB2 _).out⟩
      by_cases q2 : 200 < l[k].value.length
      · have e : R = 2 := HL.out k hlt (by unfold long; rw [decide_eq_true q2, Bool.or_true])
        subst e
        have q1' : ¬ (200 : Int) < ((bs l[k].name).size : Int) := by omega
        have q2' : (200 : Int) < ((bs l[k].value).size : Int) := by omega
        clear HL HF HT HA t
        generalize bs l[k].name = x0 at *
        generalize bs l[k].value = x1 at *
        generalize l[k].user = x2 at *
        generalize l[k].set = x3 at *
        go_wp2
        go_ret
        exact ⟨rfl, (HB2 _).out⟩
      have HA2 := Hid.mk' (more HA.out hlt (long_mk (by omega) (by omega)))
      have q1' : ¬ (200 : Int) < ((bs l[k].name).size : Int) := by omega
      have q2' : ¬ (200 : Int) < ((bs l[k].value).size : Int) := by omega
      clear HL HF HT HA t
      generalize bs l[k].name = x0 at *
      generalize bs l[k].value = x1 at *
      generalize l[k].user = x2 at *
      generalize l[k].set = x3 at *
      go_wp2
      go_roundg (l.length - (k + 1))
      case measure => omega
      case rel => exact ⟨k + 1, by omega, by omega, by go_num, HA2, HB2 _⟩
    · obtain rfl : k = l.length := by omega
      have HO := Hid.mk' (fun k h => HA.out k h h)
      have HF2 := Hid.mk' (HF.out HO.out)
      have HT2 := Hid.mk' (HT.out HO.out)
      clear HA HL HF HT HO
      obtain ⟨wo, hwo⟩ : ∃ wo, wo = wr := ⟨_, rfl⟩
      subst hwo
      go_wp2_with fail
      go_loopg [29] l.length (fun g s wr => VState w l bad g s wr)
      case atStart => exact ⟨0, Nat.zero_le _, by omega, rfl, fun a h => absurd h (Nat.not_lt_zero a), HB⟩
      case round =>
        obtain ⟨k, hk, hg, rfl, HA, HB⟩ := hrel
        by_cases hlt : k < l.length
        · rcases hr with h0 | ⟨b, o, rfl, t, hb⟩
          · subst h0; simp at hlt
          obtain ⟨t0, t1, t2, t3⟩ := (t k hlt).below HB.out hb
          have HB2 := fun cs => Hid.mk' (HB.out.alloc HB.out.size (.cells cs 30))
          have hie := bs_isEmpty l[k].value
          cases hs : l[k].set with
          | true =>
            have HA2 := Hid.mk' (more HA.out hlt (bad_set hs))
            rw [hs] at t3
            clear HF2 HT2 HA t hie hs
            generalize bs l[k].name = x0 at *
            generalize bs l[k].value = x1 at *
            generalize l[k].user = x2 at *
            go_wp2
            go_roundg (l.length - (k + 1))
            case measure => omega
            case rel => exact ⟨k + 1, by omega, by omega, by go_num, HA2, HB2 _⟩
          | false =>
            rw [hs] at t3
            by_cases he : l[k].value = []
            · have HA2 := Hid.mk' (more HA.out hlt (bad_empty he))
              rw [he] at hie t1
              have hie : (bs []).toList.isEmpty = true := hie
              clear HF2 HT2 HA t hs he
              generalize bs l[k].name = x0 at *
              generalize bs [] = x1 at *
              generalize l[k].user = x2 at *
              go_wp2
              go_roundg (l.length - (k + 1))
              case measure => omega
              case rel => exact ⟨k + 1, by omega, by omega, by go_num, HA2, HB2 _⟩
            · have e : R = 4 := HF2.out k hlt (bad_yes hs he)
              subst e
              have hie2 : (bs l[k].value).toList.isEmpty = false := by
                rw [hie]
                cases hv : l[k].value with
                | nil => exact absurd hv he
                | cons a t => rfl
              clear HF2 HT2 HA t hs he hie
              generalize bs l[k].name = x0 at *
              generalize bs l[k].value = x1 at *
              generalize l[k].user = x2 at *
              go_wp2
              go_ret
              exact ⟨rfl, (HB2 _).out⟩
        · obtain rfl : k = l.length := by omega
          have e : R = 0 := HT2.out (fun k h => HA.out k h h)
          subst e
          clear HF2 HT2 HA
          go_wp2
          go_ret
          exact ⟨rfl, HB.out⟩
end Go.Proofs.YtbfiompbngpjoaaDoor.E
