/-
  Contracts of slices.Index, slices.Contains and slices.Equal at []string over slices that are read, of about.IsName and about.areNames; condition: at most 2^44 names.
-/
import Derived.Test.YtgghplfcdkedcaaWRef
namespace Go.Proofs.Ytgghplfcdkedcaa.W
open Go.RowKit Go.Lib Go.Proofs.Ytgghplfcdkedcaa Go.Proofs.Ytgghplfcdkedcaa.Q

theorem same_bytes (a b : ByteArray) : (a.toList == b.toList) = decide (a = b) := by
  rw [ByteArray.toList_eq, ByteArray.toList_eq]
  by_cases h : a = b
  · subst h; simp
  · rw [decide_eq_false h]
    apply beq_false_of_ne
    intro e
    exact h (ByteArray.ext (Array.toList_inj.1 e))

/-- a slice of strings, read -/
def RdS (w : World) (v : Value) (l : List ByteArray) : Prop :=
  ∃ a cap, v = .slice a l.length cap ∧ l.length ≤ cap ∧ (l = [] ∨ ∃ b off, a = some ⟨b, off, none⟩ ∧ (∀ j (h : j < l.length), w.cell? ⟨b, off + j, none⟩ = some (.string l[j])) ∧ b < w.heap.size)
theorem RdS.below {w w' : World} {v : Value} {l : List ByteArray} (h : RdS w v l) (hb : Below w.heap.size w w') : RdS w' v l := by
  obtain ⟨a, cap, e, hc, hr⟩ := h
  refine ⟨a, cap, e, hc, ?_⟩
  rcases hr with h | ⟨b, off, e2, hT, hbl⟩
  · exact .inl h
  · exact .inr ⟨b, off, e2, fun j h => (hb.cell (p := ⟨b, off + j, none⟩) hbl).trans (hT j h), by have := hb.size; omega⟩
theorem RdS.front {w : World} {a : Option Addr} {n c : Nat} {l : List ByteArray} (h : RdS w (.slice a n c) l) (m : Nat) (hm : m ≤ l.length) : RdS w (.slice a m c) (l.take m) := by
  obtain ⟨a', c', e, hc, hr⟩ := h
  simp only [Value.slice.injEq] at e
  obtain ⟨rfl, rfl, rfl⟩ := e
  have hl : (l.take m).length = m := by simp; omega
  refine ⟨a, c, by rw [hl], by omega, ?_⟩
  rcases hr with rfl | ⟨b, off, e2, t, hb⟩
  · exact .inl (by simp)
  · refine .inr ⟨b, off, e2, fun j hj => ?_, hb⟩
    rw [t j (by omega)]
    simp
def scells (l : List ByteArray) : List Value := l.map Value.string
theorem scells_length (l : List ByteArray) : (scells l).length = l.length := by simp [scells]
theorem RdS.box {w : World} {b : Nat} {t : TypeId} {l : List ByteArray} (h : Box w b t (scells l)) (c : Nat) (hc : l.length ≤ c) : RdS w (.slice (some ⟨b, 0, none⟩) l.length c) l :=
  ⟨_, _, rfl, hc, .inr ⟨b, 0, rfl, fun j hj => by rw [Nat.zero_add]; exact h.cell (by simp [scells, hj]), h.lt⟩⟩

set_option maxHeartbeats 4000000 in
theorem Equal_same (w : World) (v1 v2 : Value) (l : List ByteArray) (h1 : RdS w v1 l) (h2 : RdS w v2 l) (hn : l.length ≤ 17592186044416) :
    Calls Try.prog 15 #[v1, v2] w fun e w' => e = .returned (.bool true) ∧ ∃ q, w' = w.drewN q := by
  obtain ⟨a1, c1, rfl, hc1, hr1⟩ := h1
  obtain ⟨a2, c2, rfl, hc2, hr2⟩ := h2
  go_enter Try.func15, Try.ntmps15
  go_wp2_with fail
  go_loopw [13] (fun s13 wr => ∃ k q : Nat, k ≤ l.length ∧ s13 = .int .i64 (k : Int) ∧ wr = w.drewN q) (fun i _ => l.length - (RowKit.intOf i).toNat)
  case atStart => exact ⟨0, 0, Nat.zero_le _, rfl, rfl⟩
  case round =>
    obtain ⟨k, q, hk, rfl, rfl⟩ := hrel
    by_cases hlt : k < l.length
    · rcases hr1 with h0 | ⟨b1, o1, rfl, t1, _⟩
      · subst h0; simp at hlt
      rcases hr2 with h0 | ⟨b2, o2, rfl, t2, _⟩
      · subst h0; simp at hlt
      have e1 := t1 k hlt
      have e2 := t2 k hlt
      have f1 : (w.drewN q).cell? ⟨b1, o1 + k, none⟩ = some (.string l[k]) := by rw [World.cell?_drewN]; exact e1
      have f2 : (w.drewN q).cell? ⟨b2, o2 + k, none⟩ = some (.string l[k]) := by rw [World.cell?_drewN]; exact e2
      clear t1 t2 e1 e2
      generalize l[k] = x at *
      have HD : Hid (∀ n, ∃ q', (w.drewN q).drewN n = w.drewN q') := fun n => ⟨_, World.drewN_drewN w q n⟩
      generalize w.drewN q = W at *
      go_wp2_with fail
      go_quiet (fail)
      go_wp2
      go_roundw
      case rel => obtain ⟨q', e⟩ := HD.out nq; exact ⟨k + 1, q', by omega, by go_num, e⟩
      case measure => simp [RowKit.intOf]; omega
    · obtain rfl : k = l.length := by omega
      clear hr1 hr2
      go_wp2
      go_ret
      exact ⟨rfl, q, rfl⟩

/-- the number that is told -/
def num (R : Option Nat) : Int := match R with | some k => (k : Int) | none => -1

set_option maxHeartbeats 4000000 in
theorem Index_any (w : World) (v : Value) (l : List ByteArray) (r : ByteArray) (R : Option Nat) (hv : RdS w v l) (hn : l.length ≤ 17592186044416)
    (HF : ∀ k (h : k < l.length), l[k] = r → (∀ a (ha : a < k), l[a] ≠ r) → R = some k) (HN : (∀ k (h : k < l.length), l[k] ≠ r) → R = none) :
    Calls Try.prog 25 #[v, .string r] w fun e w' => e = .returned (.int .i64 (num R)) ∧ w' = w := by
  obtain ⟨a, c, rfl, hc, hr⟩ := hv
  have HF' := Hid.mk' HF
  have HN' := Hid.mk' HN
  clear HF HN
  go_enter Try.func25, Try.ntmps25
  go_wp2_with fail
  go_loopw [8] (fun s8 wr => ∃ k : Nat, k ≤ l.length ∧ s8 = .int .i64 (k : Int) ∧ Hid (∀ a (_ : a < k) (h : a < l.length), l[a] ≠ r) ∧ wr = w) (fun i _ => l.length - (RowKit.intOf i).toNat)
  case atStart => exact ⟨0, Nat.zero_le _, rfl, fun a h => absurd h (Nat.not_lt_zero a), rfl⟩
  case round =>
    obtain ⟨k, hk, rfl, HO, rfl⟩ := hrel
    by_cases hlt : k < l.length
    · rcases hr with h0 | ⟨b1, o1, rfl, t1, _⟩
      · subst h0; simp at hlt
      have e1 := t1 k hlt
      clear t1
      by_cases he : l[k] = r
      · have e : R = some k := HF'.out k hlt he (fun a ha => HO.out a ha (by omega))
        subst e
        rw [he] at e1
        clear HF' HN' he HO
        go_wp2
        go_ret
        exact ⟨rfl, rfl⟩
      · have HO2 : Hid (∀ a (_ : a < k + 1) (h : a < l.length), l[a] ≠ r) := fun a ha h => by
          by_cases e : a = k
          · subst e; exact he
          · exact HO.out a (by omega) h
        have he2 : (r.toList == (l[k]).toList) = false := by rw [same_bytes]; exact decide_eq_false (fun e => he e.symm)
        clear HF' HN' HO he
        generalize l[k] = x at *
        go_wp2
        go_roundw
        case rel => exact ⟨k + 1, by omega, by go_num, HO2, trivial⟩
        case measure => simp [RowKit.intOf]; omega
    · obtain rfl : k = l.length := by omega
      have e : R = none := HN'.out (fun a ha => HO.out a ha ha)
      subst e
      clear HF' HN' HO hr
      go_wp2
      go_ret
      exact ⟨rfl, rfl⟩

/-- where a name stands first -/
def idx (l : List ByteArray) (r : ByteArray) : Option Nat := (List.range l.length).find? fun k => decide (l.getD k ⟨#[]⟩ = r)
theorem idx_first (l : List ByteArray) (r : ByteArray) (k : Nat) (h : k < l.length) (he : l[k] = r) (hn : ∀ a (ha : a < k), l[a] ≠ r) : idx l r = some k := by
  unfold idx
  rw [List.find?_range_eq_some]
  refine ⟨by simp [h, he], by simpa using h, fun j hj => ?_⟩
  have hjl : j < l.length := by omega
  simp [hjl, hn j hj]
theorem idx_none (l : List ByteArray) (r : ByteArray) (hn : ∀ k (h : k < l.length), l[k] ≠ r) : idx l r = none := by
  unfold idx
  rw [List.find?_range_eq_none]
  intro j hj
  simp [hj, hn j hj]
end Go.Proofs.Ytgghplfcdkedcaa.W
