/-
  Laws of the plain functions: what is asked for is read as it was; what was chosen is told; letters are no matter; no program, no condition.
-/
import Derived.Test.YtckgkncahaicoaaCTold
import Derived.Test.YtckgkncahaicoaaCUp
namespace Go.Proofs.Ytckgkncahaicoaa.C
open Go.RowKit Go.Lib Go.Proofs.Ytckgkncahaicoaa Go.Proofs.Ytckgkncahaicoaa.W Go.Proofs.Ytckgkncahaicoaa.Q

theorem askT_err (l : List ByteArray) : ((askT l).2 = 1 ∨ (askT l).2 = 4 ∨ (askT l).2 = 5) ∧ (askT l).1 = ⟨#[]⟩ ∨ (∃ c, (1 ≤ l.length ∧ l.length ≤ 8) ∧ namesOk l = true ∧ free l = some c ∧ askT l = (bs (1 :: c :: Lib.join (l.map fun x => x.data.toList) [c]), 0)) := by
  by_cases h : 1 ≤ l.length ∧ l.length ≤ 8
  · cases ho : namesOk l with
    | false => left; rw [askT_form h ho]; exact ⟨.inr (.inl rfl), rfl⟩
    | true =>
      cases hf : free l with
      | none => left; rw [askT_full h ho hf]; exact ⟨.inr (.inr rfl), rfl⟩
      | some c => right; exact ⟨c, h, rfl, rfl, askT_ok h ho hf⟩
  · left; rw [askT_arg h]; exact ⟨.inl rfl, rfl⟩
theorem map_bs_data (l : List ByteArray) : (l.map fun x => x.data.toList).map bs = l := by
  rw [List.map_map]
  conv => rhs; rw [← List.map_id l]
  apply List.map_congr_left
  intro x _
  exact bs_data x
theorem asked_ask {l : List ByteArray} {c : UInt8} (h : 1 ≤ l.length ∧ l.length ≤ 8) (ho : namesOk l = true) (hf : free l = some c) : asked (1 :: c :: Lib.join (l.map fun x => x.data.toList) [c]) = (0, l) := by
  obtain ⟨h1, h2, h3⟩ := free_is hf
  have hp : pieces c (Lib.join (l.map fun x => x.data.toList) [c]) = l.map fun x => x.data.toList := by
    refine pieces_join c _ (by intro e; simp at e; rw [e] at h; simp at h) (fun x hx => ?_)
    simp only [List.mem_map] at hx
    obtain ⟨y, hy, rfl⟩ := hx
    exact isFree_mem h1 y hy
  have hh : headOk 1 c = true := decide_eq_true ⟨rfl, h2, by omega⟩
  rw [asked, if_pos hh, askedL_ok, hp, map_bs_data]
  · intro p hpm
    rw [hp] at hpm
    simp only [List.mem_map] at hpm
    obtain ⟨y, hy, rfl⟩ := hpm
    rw [bs_data]
    exact namesOk_mem ho y hy
  · rw [hp]; simpa using h.2
theorem firstL_mem {l : List ByteArray} {n : ByteArray} (h : n ∈ l) : ∃ o, firstL l n = some o ∧ up o = up n ∧ o ∈ l := by
  cases hf : firstL l n with
  | some o => exact ⟨o, rfl, of_decide_eq_true (firstL_like hf).1, (firstL_like hf).2⟩
  | none =>
    unfold firstL at hf
    rw [List.find?_eq_none] at hf
    have := hf n h
    rw [like_self] at this
    exact absurd rfl this
/-- what is told of an answer to an ask for l -/
theorem meet_some {may l : List ByteArray} {d : List UInt8} (ha : asked d = (0, l)) {n m : ByteArray} (hp : pick may l = some (n, m)) : (ansT may d).2.1 = m ∧ (ansT may d).2.2 = 0 ∧ (ansT may d).1 = bs (2 :: n.data.toList) ∧ (toldT l (2 :: n.data.toList)).2 = 0 ∧ up (toldT l (2 :: n.data.toList)).1 = up n ∧ (toldT l (2 :: n.data.toList)).1 ∈ l := by
  have e := ansT_some (may := may) (d := d) (by rw [ha]) (by rw [ha]; exact hp)
  obtain ⟨o, h1, h2, h3⟩ := firstL_mem (pick_like hp).1
  have e2 := toldT_some (l := l) (s := n.data.toList) (m := o) (by rw [bs_data]; exact h1)
  rw [e, e2]
  exact ⟨rfl, rfl, rfl, rfl, h2, h3⟩
theorem meet_none {may l : List ByteArray} {d : List UInt8} (ha : asked d = (0, l)) (hp : pick may l = none) : ansT may d = (⟨#[3]⟩, ⟨#[]⟩, 0) := ansT_none (by rw [ha]) (by rw [ha]; exact hp)

theorem cap_is {x c : UInt8} (hc : c.toNat < 65) : cap x = c ↔ x = c := by
  have h := cap_all x
  constructor
  · intro e
    rw [e] at h
    apply UInt8.toNat_inj.1
    split at h <;> omega
  · rintro rfl
    unfold cap
    rw [if_neg (by omega)]
theorem isSign_cap (b : UInt8) : isSign (cap b) = isSign b := by
  unfold isSign
  have h := cap_all b
  split at h
  · exact decide_eq_decide.2 (by omega)
  · rw [h]
theorem nameOk_up (S : ByteArray) : nameOk (up S) = nameOk S := by
  unfold nameOk
  have e1 : decide (1 ≤ (up S).size ∧ (up S).size ≤ 40) = decide (1 ≤ S.size ∧ S.size ≤ 40) := decide_eq_decide.2 (by rw [up_size])
  rw [e1]
  congr 1
  apply decide_eq_decide.2
  constructor
  · intro h k hk
    have := h k (by rw [up_size]; exact hk)
    rwa [up_get S k hk, isSign_cap] at this
  · intro h k hk
    rw [up_get S k (by rw [up_size] at hk; exact hk), isSign_cap]
    exact h k _
theorem askedL_up {c : UInt8} (hc : c.toNat < 65) (s : List UInt8) : askedL c (s.map cap) = ((askedL c s).1, (askedL c s).2.map up) := by
  have hp := pieces_map c cap (fun x => cap_is hc) s
  have ha : ((pieces c (s.map cap)).all fun p => nameOk (bs p)) = ((pieces c s).all fun p => nameOk (bs p)) := by
    rw [hp, List.all_map]
    congr 1
    funext p
    show nameOk (bs (p.map cap)) = _
    rw [← up_bs, nameOk_up]
  have hl : (pieces c (s.map cap)).length = (pieces c s).length := by rw [hp]; simp
  unfold askedL
  rw [ha, hl]
  split
  · split
    · simp only [Prod.mk.injEq, true_and]
      rw [hp, List.map_map, List.map_map]
      apply List.map_congr_left
      intro p _
      show bs (p.map cap) = up (bs p)
      rw [up_bs]
    · rfl
  · rfl
theorem asked_up {a c : UInt8} (hc : c.toNat < 65) (s : List UInt8) : asked ((a :: c :: s).map cap) = ((asked (a :: c :: s)).1, (asked (a :: c :: s)).2.map up) := by
  have h1 : cap c = c := (cap_is hc).2 rfl
  have h2 : headOk (cap a) c = headOk a c := by
    unfold headOk
    apply decide_eq_decide.2
    rw [cap_is (by decide)]
  rw [List.map_cons, List.map_cons, h1, asked, asked, h2, askedL_up hc]
  split <;> rfl
theorem ansT_up (may : List ByteArray) {a c : UInt8} (hc : c.toNat < 65) (s : List UInt8) : ansT may ((a :: c :: s).map cap) = (up (ansT may (a :: c :: s)).1, (ansT may (a :: c :: s)).2.1, (ansT may (a :: c :: s)).2.2) := by
  have h := asked_up (a := a) hc s
  have h1 : (asked ((a :: c :: s).map cap)).1 = (asked (a :: c :: s)).1 := by rw [h]
  have h2 : (asked ((a :: c :: s).map cap)).2 = (asked (a :: c :: s)).2.map up := by rw [h]
  generalize a :: c :: s = d at *
  unfold ansT
  rw [h1, h2, pick_up]
  split
  · cases pick may (asked d).2 with
    | none =>
      show ((⟨#[3]⟩ : ByteArray), (⟨#[]⟩ : ByteArray), (0 : Int)) = (up (bs [3]), ⟨#[]⟩, 0)
      rw [up_bs]
      rfl
    | some x =>
      obtain ⟨n, m⟩ := x
      simp only [Option.map_some, Prod.mk.injEq, and_true]
      rw [up_bs, List.map_cons, up_list]
      rfl
  · show _ = (up (bs []), _, _)
    rw [up_bs]
    rfl
theorem ansT_told (may : List ByteArray) (d : List UInt8) (h : (ansT may d).2.2 = 0) : ((toldT may (ansT may d).1.data.toList).2 = 0 ∧ 1 ≤ (ansT may d).2.1.size) ∨ ((toldT may (ansT may d).1.data.toList).2 = 6 ∧ (ansT may d).2.1 = ⟨#[]⟩) := by
  by_cases h0 : (asked d).1 = 0
  · cases hp : pick may (asked d).2 with
    | none =>
      rw [ansT_none h0 hp]
      right
      exact ⟨by rw [show (⟨#[3]⟩ : ByteArray).data.toList = [3] from rfl, toldT_three], rfl⟩
    | some x =>
      obtain ⟨n, m⟩ := x
      rw [ansT_some h0 hp]
      left
      obtain ⟨hm, hf⟩ := pick_like hp
      refine ⟨?_, ?_⟩
      · rw [data_bs, toldT_some (m := m)]
        rw [bs_data]; exact hf
      · have h1 := like_len (firstL_like hf).1
        have h2 := (nameOk_size ((asked_ok h0).1 n hm)).1
        show 1 ≤ m.size
        omega
  · rw [ansT_err h0] at h
    exact absurd h h0
theorem ansT_size (may : List ByteArray) (d : List UInt8) : (ansT may d).1.size ≤ 41 := by
  by_cases h0 : (asked d).1 = 0
  · cases hp : pick may (asked d).2 with
    | none =>
      rw [ansT_none h0 hp]
      decide
    | some x =>
      obtain ⟨n, m⟩ := x
      rw [ansT_some h0 hp]
      have h2 := (nameOk_size ((asked_ok h0).1 n (pick_like hp).1)).2
      rw [size_data] at h2
      show (bs (2 :: n.data.toList)).size ≤ 41
      rw [bs_size, List.length_cons]
      omega
  · rw [ansT_err h0]
    show (⟨#[]⟩ : ByteArray).size ≤ 41
    decide
theorem ansT_errs (may : List ByteArray) (d : List UInt8) : (ansT may d).2.2 = 0 ∨ (ansT may d).2.2 = 2 ∨ (ansT may d).2.2 = 4 := by
  by_cases h0 : (asked d).1 = 0
  · cases hp : pick may (asked d).2 with
    | none => rw [ansT_none h0 hp]; exact .inl rfl
    | some x =>
      obtain ⟨n, m⟩ := x
      rw [ansT_some h0 hp]; exact .inl rfl
  · rw [ansT_err h0]; exact asked_err d
theorem toldT_errs (l : List ByteArray) (d : List UInt8) : (toldT l d).2 = 0 ∨ (toldT l d).2 = 4 ∨ (toldT l d).2 = 6 := by
  unfold toldT
  split
  · exact .inr (.inr rfl)
  · split
    · split
      · exact .inl rfl
      · exact .inr (.inr rfl)
    · exact .inr (.inl rfl)
theorem upper_S (S : ByteArray) (w : World) (hz : S.size ≤ 9223372036854775807) :
    Calls Try.prog 14 #[.string S] w fun e w' => e = .returned (.string (up S)) ∧ Below w.heap.size w w' := by
  have := upper_any S.data.toList w (by rw [← size_data]; exact hz)
  rw [bs_data, ← up_bs, bs_data] at this
  exact this
end Go.Proofs.Ytckgkncahaicoaa.C
