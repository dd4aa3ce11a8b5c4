/-
  Plain functions of the document's chapter on what a terminal knows, and their laws; no program, no condition.
-/
import Derived.Test.YtbfiompbngpjoaaDoorCPlain
namespace Go.Proofs.YtbfiompbngpjoaaDoor.E
open Go.Proofs.YtbfiompbngpjoaaDoor.C

/-- a variable -/
structure Vr where
  name : List UInt8
  value : List UInt8
  user : Bool
  set : Bool

/-- a word with its marks quoted -/
def esc : List UInt8 → List UInt8
  | [] => []
  | b :: l => if b.toNat ≤ 3 then 2 :: b :: esc l else b :: esc l
theorem esc_mark {b : UInt8} (h : b.toNat ≤ 3) (l : List UInt8) : esc (b :: l) = 2 :: b :: esc l := by rw [esc, if_pos h]
theorem esc_plain {b : UInt8} (h : ¬ b.toNat ≤ 3) (l : List UInt8) : esc (b :: l) = b :: esc l := by rw [esc, if_neg h]
theorem esc_app : ∀ a b : List UInt8, esc (a ++ b) = esc a ++ esc b
  | [], b => rfl
  | x :: a, b => by
    rw [List.cons_append]
    by_cases h : x.toNat ≤ 3
    · rw [esc_mark h, esc_mark h, esc_app a b]; rfl
    · rw [esc_plain h, esc_plain h, esc_app a b]; rfl
theorem esc_len : ∀ a : List UInt8, (esc a).length ≤ 2 * a.length
  | [] => by simp [esc]
  | x :: a => by
    have := esc_len a
    by_cases h : x.toNat ≤ 3
    · rw [esc_mark h]; simp only [List.length_cons]; omega
    · rw [esc_plain h]; simp only [List.length_cons]; omega
theorem esc_ge : ∀ a : List UInt8, a.length ≤ (esc a).length
  | [] => by simp
  | x :: a => by
    have := esc_ge a
    by_cases h : x.toNat ≤ 3
    · rw [esc_mark h]; simp only [List.length_cons]; omega
    · rw [esc_plain h]; simp only [List.length_cons]; omega

def markOf (u : Bool) : UInt8 := if u = true then 3 else 0
def valText (v : Vr) : List UInt8 := if v.set = true then 1 :: esc v.value else []
/-- what is written of a variable -/
def Vr.text (v : Vr) : List UInt8 := markOf v.user :: (esc v.name ++ valText v)
def txt : List Vr → List UInt8
  | [] => []
  | v :: l => v.text ++ txt l
theorem txt_app : ∀ a b : List Vr, txt (a ++ b) = txt a ++ txt b
  | [], b => rfl
  | x :: a, b => by rw [List.cons_append, txt, txt, txt_app a b, List.append_assoc]
def long (v : Vr) : Bool := decide (200 < v.name.length) || decide (200 < v.value.length)
def bad (v : Vr) : Bool := !v.set && !v.value.isEmpty
/-- the error of a list of variables -/
def chk (l : List Vr) : Int := if 20 < l.length then 2 else if l.any long = true then 2 else if l.any bad = true then 4 else 0
def writeT (l : List Vr) : List UInt8 × Int := if chk l = 0 then (txt l, 0) else ([], chk l)
theorem chk_many {l : List Vr} (h : 20 < l.length) : chk l = 2 := by rw [chk, if_pos h]
theorem chk_long {l : List Vr} {v : Vr} (hm : v ∈ l) (h : long v = true) : chk l = 2 := by
  rw [chk]
  split
  · rfl
  · rw [if_pos (List.any_eq_true.2 ⟨v, hm, h⟩)]
theorem chk_form {l : List Vr} {v : Vr} (hn : l.length ≤ 20) (hl : ∀ x ∈ l, long x = false) (hm : v ∈ l) (h : bad v = true) : chk l = 4 := by
  rw [chk, if_neg (by omega), if_neg, if_pos (List.any_eq_true.2 ⟨v, hm, h⟩)]
  intro hh
  obtain ⟨x, hx, hb⟩ := List.any_eq_true.1 hh
  rw [hl x hx] at hb
  cases hb
theorem chk_ok {l : List Vr} (hn : l.length ≤ 20) (hl : ∀ x ∈ l, long x = false) (hb : ∀ x ∈ l, bad x = false) : chk l = 0 := by
  rw [chk, if_neg (by omega), if_neg, if_neg]
  · intro hh
    obtain ⟨x, hx, h⟩ := List.any_eq_true.1 hh
    rw [hb x hx] at h
    cases h
  · intro hh
    obtain ⟨x, hx, h⟩ := List.any_eq_true.1 hh
    rw [hl x hx] at h
    cases h
theorem chk_zero {l : List Vr} (h : chk l = 0) : l.length ≤ 20 ∧ (∀ x ∈ l, long x = false) ∧ (∀ x ∈ l, bad x = false) := by
  rw [chk] at h
  split at h
  · cases h
  · rename_i h1
    split at h
    · cases h
    · rename_i h2
      split at h
      · cases h
      · rename_i h3
        refine ⟨by omega, fun x hx => ?_, fun x hx => ?_⟩
        · cases hh : long x with
          | false => rfl
          | true => exact absurd (List.any_eq_true.2 ⟨x, hx, hh⟩) h2
        · cases hh : bad x with
          | false => rfl
          | true => exact absurd (List.any_eq_true.2 ⟨x, hx, hh⟩) h3
theorem chk_range (l : List Vr) : chk l = 0 ∨ chk l = 2 ∨ chk l = 4 := by
  rw [chk]
  split
  · exact .inr (.inl rfl)
  · split
    · exact .inr (.inl rfl)
    · split
      · exact .inr (.inr rfl)
      · exact .inl rfl
theorem long_no {v : Vr} (h : long v = false) : v.name.length ≤ 200 ∧ v.value.length ≤ 200 := by
  unfold long at h
  rw [Bool.or_eq_false_iff] at h
  exact ⟨by have := of_decide_eq_false h.1; omega, by have := of_decide_eq_false h.2; omega⟩
theorem long_mk {v : Vr} (h1 : v.name.length ≤ 200) (h2 : v.value.length ≤ 200) : long v = false := by
  unfold long
  rw [decide_eq_false (by omega), decide_eq_false (by omega)]
  rfl
theorem text_len {v : Vr} (h : long v = false) : v.text.length ≤ 802 := by
  obtain ⟨h1, h2⟩ := long_no h
  have e1 := esc_len v.name
  have e2 := esc_len v.value
  unfold Vr.text valText
  split <;> simp only [List.length_cons, List.length_append, List.length_nil] <;> omega
theorem txt_len : ∀ l : List Vr, (∀ x ∈ l, long x = false) → (txt l).length ≤ 802 * l.length
  | [], _ => by simp [txt]
  | v :: l, h => by
    have := txt_len l (fun x hx => h x (List.mem_cons_of_mem _ hx))
    have := text_len (h v List.mem_cons_self)
    rw [txt, List.length_append, List.length_cons]
    omega
theorem writeT_len (l : List Vr) : (writeT l).1.length ≤ 16040 := by
  rw [writeT]
  split
  · rename_i h
    obtain ⟨h1, h2, _⟩ := chk_zero h
    have := txt_len l h2
    simp only
    omega
  · simp
theorem writeT_err (l : List Vr) : (writeT l).2 = chk l := by
  rw [writeT]
  split
  · rename_i h; exact h.symm
  · rfl
theorem writeT_ok {l : List Vr} (h : chk l = 0) : writeT l = (txt l, 0) := by rw [writeT, if_pos h]
theorem writeT_no {l : List Vr} (h : chk l ≠ 0) : writeT l = ([], chk l) := by rw [writeT, if_neg h]

/-- a word at the front, and what stands behind it -/
def word : List UInt8 → Option (List UInt8 × List UInt8)
  | [] => some ([], [])
  | b :: s =>
    if b.toNat = 2 then
      match s with
      | [] => none
      | c :: t => if c.toNat ≤ 3 then (word t).map fun p => (c :: p.1, p.2) else none
    else if b.toNat ≤ 3 then some ([], b :: s) else (word s).map fun p => (b :: p.1, p.2)
/-- where a word ends -/
def stops : List UInt8 → Bool
  | [] => true
  | b :: _ => decide (b.toNat ≤ 3 ∧ b.toNat ≠ 2)
theorem word_nil : word [] = some ([], []) := by rw [word]
theorem word_quote {c : UInt8} (hc : c.toNat ≤ 3) (t : List UInt8) : word (2 :: c :: t) = (word t).map fun p => (c :: p.1, p.2) := by
  rw [word, if_pos (show (2 : UInt8).toNat = 2 from rfl), if_pos hc]
theorem word_cut : word [2] = none := by rw [word, if_pos (show (2 : UInt8).toNat = 2 from rfl)]
theorem word_none {c : UInt8} (hc : ¬ c.toNat ≤ 3) (t : List UInt8) : word (2 :: c :: t) = none := by
  rw [word, if_pos (show (2 : UInt8).toNat = 2 from rfl), if_neg hc]
theorem word_plain {b : UInt8} (hb : ¬ b.toNat ≤ 3) (t : List UInt8) : word (b :: t) = (word t).map fun p => (b :: p.1, p.2) := by
  rw [word.eq_def]
  simp only
  rw [if_neg (by omega), if_neg hb]
theorem word_stop : ∀ {r : List UInt8}, stops r = true → word r = some ([], r)
  | [], _ => word_nil
  | b :: s, h => by
    have h := of_decide_eq_true h
    rw [word.eq_def]
    simp only
    rw [if_neg h.2, if_pos h.1]
theorem two_of {b : UInt8} (h : b.toNat = 2) : b = 2 := UInt8.toNat_inj.1 h
theorem word_esc : ∀ (w r : List UInt8), word (esc w ++ r) = (word r).map fun p => (w ++ p.1, p.2)
  | [], r => by simp [esc]
  | b :: w, r => by
    have ih := word_esc w r
    by_cases h : b.toNat ≤ 3
    · rw [esc_mark h, List.cons_append, List.cons_append, word_quote h, ih, Option.map_map]
      rfl
    · rw [esc_plain h, List.cons_append, word_plain h, ih, Option.map_map]
      rfl
theorem word_some : ∀ {s w r : List UInt8}, word s = some (w, r) → s = esc w ++ r ∧ stops r = true
  | [], w, r, h => by
    rw [word_nil] at h
    simp only [Option.some.injEq, Prod.mk.injEq] at h
    obtain ⟨rfl, rfl⟩ := h
    exact ⟨rfl, rfl⟩
  | [b], w, r, h => by
    by_cases h2 : b.toNat = 2
    · obtain rfl := two_of h2
      rw [word_cut] at h
      cases h
    · by_cases h3 : b.toNat ≤ 3
      · have hs : stops [b] = true := decide_eq_true ⟨h3, h2⟩
        rw [word_stop hs] at h
        simp only [Option.some.injEq, Prod.mk.injEq] at h
        obtain ⟨rfl, rfl⟩ := h
        exact ⟨rfl, hs⟩
      · rw [word_plain h3, word_nil] at h
        simp only [Option.map_some, Option.some.injEq, Prod.mk.injEq] at h
        obtain ⟨rfl, rfl⟩ := h
        exact ⟨by rw [esc_plain h3]; rfl, rfl⟩
  | b :: c :: t, w, r, h => by
    by_cases h2 : b.toNat = 2
    · obtain rfl := two_of h2
      by_cases hc : c.toNat ≤ 3
      · rw [word_quote hc] at h
        cases hw : word t with
        | none => rw [hw] at h; cases h
        | some p =>
          obtain ⟨x, y⟩ := p
          rw [hw] at h
          simp only [Option.map_some, Option.some.injEq, Prod.mk.injEq] at h
          obtain ⟨rfl, rfl⟩ := h
          obtain ⟨e, hs⟩ := word_some hw
          exact ⟨by rw [esc_mark hc, e]; rfl, hs⟩
      · rw [word_none hc] at h
        cases h
    · by_cases h3 : b.toNat ≤ 3
      · have hs : stops (b :: c :: t) = true := decide_eq_true ⟨h3, h2⟩
        rw [word_stop hs] at h
        simp only [Option.some.injEq, Prod.mk.injEq] at h
        obtain ⟨rfl, rfl⟩ := h
        exact ⟨rfl, hs⟩
      · rw [word_plain h3] at h
        cases hw : word (c :: t) with
        | none => rw [hw] at h; cases h
        | some p =>
          obtain ⟨x, y⟩ := p
          rw [hw] at h
          simp only [Option.map_some, Option.some.injEq, Prod.mk.injEq] at h
          obtain ⟨rfl, rfl⟩ := h
          obtain ⟨e, hs⟩ := word_some hw
          exact ⟨by rw [esc_plain h3, e]; rfl, hs⟩

def isHead (b : UInt8) : Bool := decide (b.toNat = 0 ∨ b.toNat = 3)
/-- what stands behind a name -/
def afterName (u : Bool) (n : List UInt8) : List UInt8 → Option (Vr × List UInt8)
  | [] => some (⟨n, [], u, false⟩, [])
  | b :: r => if b.toNat = 1 then (word r).map fun p => (⟨n, p.1, u, true⟩, p.2) else some (⟨n, [], u, false⟩, b :: r)
/-- a variable at the front, and what stands behind it -/
def var0 : List UInt8 → Option (Vr × List UInt8)
  | [] => none
  | b :: s => if isHead b = true then (word s).bind fun p => afterName (decide (b.toNat = 3)) p.1 p.2 else none
theorem mark_of {b : UInt8} (h : isHead b = true) : markOf (decide (b.toNat = 3)) = b := by
  rcases of_decide_eq_true h with h | h
  · rw [decide_eq_false (by omega)]
    exact (UInt8.toNat_inj.1 h).symm
  · rw [decide_eq_true h]
    exact (UInt8.toNat_inj.1 h).symm
theorem var0_some {s r : List UInt8} {v : Vr} (h : var0 s = some (v, r)) : s = v.text ++ r ∧ bad v = false := by
  cases s with
  | nil => cases h
  | cons b s =>
    rw [var0] at h
    split at h
    · rename_i hh
      cases hw : word s with
      | none => rw [hw] at h; cases h
      | some p =>
        obtain ⟨n, q⟩ := p
        rw [hw] at h
        obtain ⟨e, hs⟩ := word_some hw
        simp only [Option.bind_some] at h
        cases q with
        | nil =>
          simp only [afterName, Option.some.injEq, Prod.mk.injEq] at h
          obtain ⟨rfl, rfl⟩ := h
          refine ⟨?_, rfl⟩
          simp only [Vr.text, valText, mark_of hh, e, Bool.false_eq_true, if_false]
          simp
        | cons c q =>
          rw [afterName] at h
          split at h
          · rename_i h1
            cases hw2 : word q with
            | none => rw [hw2] at h; cases h
            | some p2 =>
              obtain ⟨x, y⟩ := p2
              rw [hw2] at h
              obtain ⟨e2, hs2⟩ := word_some hw2
              simp only [Option.map_some, Option.some.injEq, Prod.mk.injEq] at h
              obtain ⟨rfl, rfl⟩ := h
              have hc : c = 1 := UInt8.toNat_inj.1 h1
              subst hc
              refine ⟨?_, rfl⟩
              simp only [Vr.text, valText, mark_of hh, e, e2, if_true]
              simp
          · simp only [Option.some.injEq, Prod.mk.injEq] at h
            obtain ⟨rfl, rfl⟩ := h
            refine ⟨?_, rfl⟩
            simp only [Vr.text, valText, mark_of hh, e, Bool.false_eq_true, if_false]
            simp
    · cases h
/-- where a variable begins, or the text ends -/
def opens : List UInt8 → Bool
  | [] => true
  | b :: _ => isHead b
theorem opens_stops : ∀ {r : List UInt8}, opens r = true → stops r = true
  | [], _ => rfl
  | b :: _, h => by
    have := of_decide_eq_true h
    exact decide_eq_true (by omega)
theorem opens_text (v : Vr) (r : List UInt8) : opens (v.text ++ r) = true := by
  show isHead (markOf v.user) = true
  unfold markOf
  split <;> rfl
theorem opens_txt : ∀ l : List Vr, opens (txt l) = true
  | [] => rfl
  | v :: _ => opens_text v _
theorem head_mark (u : Bool) : isHead (markOf u) = true ∧ decide ((markOf u).toNat = 3) = u := by cases u <;> exact ⟨rfl, rfl⟩
theorem var0_text (v : Vr) (r : List UInt8) (hb : bad v = false) (hr : opens r = true) : var0 (v.text ++ r) = some (v, r) := by
  obtain ⟨n, x, u, s⟩ := v
  have e : (Vr.text ⟨n, x, u, s⟩ ++ r) = markOf u :: (esc n ++ (valText ⟨n, x, u, s⟩ ++ r)) := by simp [Vr.text]
  rw [e, var0, if_pos (head_mark u).1, (head_mark u).2, word_esc]
  cases s with
  | true =>
    have hs : stops (valText ⟨n, x, u, true⟩ ++ r) = true := rfl
    rw [word_stop hs]
    simp only [Option.map_some, Option.bind_some, List.append_nil]
    rw [show valText ⟨n, x, u, true⟩ ++ r = 1 :: (esc x ++ r) from rfl, afterName, if_pos (show (1 : UInt8).toNat = 1 from rfl), word_esc, word_stop (opens_stops hr)]
    simp
  | false =>
    have hx : x = [] := by
      cases x with
      | nil => rfl
      | cons a t => cases hb
    subst hx
    rw [show valText ⟨n, [], u, false⟩ ++ r = r from rfl, word_stop (opens_stops hr)]
    simp only [Option.map_some, Option.bind_some, List.append_nil]
    cases r with
    | nil => rfl
    | cons b r =>
      have := of_decide_eq_true hr
      rw [afterName, if_neg (by omega)]

/-- all variables, one behind the other -/
def varsF : Nat → List UInt8 → Option (List Vr)
  | _, [] => some []
  | 0, _ :: _ => none
  | n + 1, b :: s => (var0 (b :: s)).bind fun p => (varsF n p.2).map fun l => p.1 :: l
def rd (s : List UInt8) : Option (List Vr) := varsF s.length s
theorem text_pos (v : Vr) : 0 < v.text.length := by simp [Vr.text]
theorem varsF_some : ∀ (n : Nat) {s : List UInt8} {l : List Vr}, varsF n s = some l → s = txt l ∧ ∀ x ∈ l, bad x = false
  | n, [], l, h => by
    have e : varsF n [] = some [] := by cases n <;> rfl
    rw [e, Option.some.injEq] at h
    subst h
    exact ⟨rfl, fun x hx => by cases hx⟩
  | 0, _ :: _, l, h => by cases h
  | n + 1, b :: s, l, h => by
    rw [varsF] at h
    cases hv : var0 (b :: s) with
    | none => rw [hv] at h; cases h
    | some p =>
      obtain ⟨v, r⟩ := p
      rw [hv] at h
      simp only [Option.bind_some] at h
      cases hr : varsF n r with
      | none => rw [hr] at h; cases h
      | some m =>
        rw [hr] at h
        simp only [Option.map_some, Option.some.injEq] at h
        subst h
        obtain ⟨e, hb⟩ := var0_some hv
        obtain ⟨e2, hb2⟩ := varsF_some n hr
        refine ⟨by rw [e, e2, txt], fun x hx => ?_⟩
        rcases List.mem_cons.1 hx with rfl | hx
        · exact hb
        · exact hb2 x hx
theorem varsF_txt : ∀ (l : List Vr) (n : Nat), (∀ x ∈ l, bad x = false) → (txt l).length ≤ n → varsF n (txt l) = some l
  | [], n, _, _ => by cases n <;> rfl
  | v :: l, 0, _, h => by
    have := text_pos v
    rw [txt, List.length_append] at h
    omega
  | v :: l, n + 1, hb, h => by
    have hp := text_pos v
    rw [txt, List.length_append] at h
    have ih := varsF_txt l n (fun x hx => hb x (List.mem_cons_of_mem _ hx)) (by omega)
    have hv := var0_text v (txt l) (hb v List.mem_cons_self) (opens_txt l)
    rw [show txt (v :: l) = markOf v.user :: (esc v.name ++ valText v ++ txt l) from rfl] at *
    rw [varsF, show markOf v.user :: (esc v.name ++ valText v ++ txt l) = v.text ++ txt l from rfl, hv]
    simp only [Option.bind_some, ih, Option.map_some]
theorem rd_iff (s : List UInt8) (l : List Vr) : rd s = some l ↔ s = txt l ∧ ∀ x ∈ l, bad x = false := by
  constructor
  · exact varsF_some _
  · rintro ⟨rfl, h⟩
    exact varsF_txt l _ h (Nat.le_refl _)
theorem varsF_more : ∀ (n m : Nat) (s : List UInt8), s.length ≤ n → s.length ≤ m → varsF n s = varsF m s
  | n, m, [], _, _ => by cases n <;> cases m <;> rfl
  | 0, _, _ :: _, h, _ => by simp at h
  | _, 0, _ :: _, _, h => by simp at h
  | n + 1, m + 1, b :: s, h1, h2 => by
    rw [varsF, varsF]
    cases hv : var0 (b :: s) with
    | none => rfl
    | some p =>
      obtain ⟨v, r⟩ := p
      obtain ⟨e, _⟩ := var0_some hv
      have hl : r.length < (b :: s).length := by
        have := text_pos v
        rw [e, List.length_append]
        omega
      simp only [Option.bind_some]
      rw [varsF_more n m r (by omega) (by omega)]
theorem rd_nil : rd [] = some [] := rfl
theorem rd_none {b : UInt8} {s : List UInt8} (h : var0 (b :: s) = none) : rd (b :: s) = none := by
  show varsF (s.length + 1) (b :: s) = none
  rw [varsF, h]
  rfl
theorem rd_cons {b : UInt8} {s r : List UInt8} {v : Vr} (h : var0 (b :: s) = some (v, r)) : rd (b :: s) = (rd r).map fun l => v :: l := by
  show varsF (s.length + 1) (b :: s) = _
  obtain ⟨e, _⟩ := var0_some h
  have hl : r.length < (b :: s).length := by
    have := text_pos v
    rw [e, List.length_append]
    omega
  rw [List.length_cons] at hl
  rw [varsF, h]
  simp only [Option.bind_some]
  rw [varsF_more s.length r.length r (by omega) (Nat.le_refl _)]
  rfl
theorem var0_less {s r : List UInt8} {v : Vr} (h : var0 s = some (v, r)) : r.length < s.length ∧ v.name.length < s.length ∧ v.value.length < s.length := by
  obtain ⟨e, hb⟩ := var0_some h
  have e1 := esc_ge v.name
  have e2 := esc_ge v.value
  have : v.value.length ≤ (valText v).length := by
    unfold valText
    split
    · simp; omega
    · rename_i hs
      unfold bad at hb
      cases hv : v.value with
      | nil => simp
      | cons a t => rw [hv] at hb; simp at hb; simp [hb] at hs
  rw [e, Vr.text]
  simp only [List.length_append, List.length_cons]
  omega

/-- what is read of a text -/
def readT (s : List UInt8) : List Vr × Int :=
  if 4096 < s.length then ([], 2) else match rd s with
    | none => ([], 4)
    | some l => if chk l = 0 then (l, 0) else ([], 4)
theorem readT_large {s : List UInt8} (h : 4096 < s.length) : readT s = ([], 2) := by rw [readT, if_pos h]
theorem readT_none {s : List UInt8} (h : s.length ≤ 4096) (h1 : rd s = none) : readT s = ([], 4) := by
  rw [readT, if_neg (by omega), h1]
theorem readT_no {s : List UInt8} (h : s.length ≤ 4096) (h1 : ∀ l, rd s = some l → chk l ≠ 0) : readT s = ([], 4) := by
  rw [readT, if_neg (by omega)]
  cases hr : rd s with
  | none => rfl
  | some l => simp only; rw [if_neg (h1 l hr)]
theorem readT_ok {s : List UInt8} {l : List Vr} (h : s.length ≤ 4096) (h1 : rd s = some l) (h2 : chk l = 0) : readT s = (l, 0) := by
  rw [readT, if_neg (by omega), h1]
  simp only
  rw [if_pos h2]
theorem readT_txt {l : List Vr} (h : chk l = 0) (hs : (txt l).length ≤ 4096) : readT (txt l) = (l, 0) :=
  readT_ok hs ((rd_iff _ _).2 ⟨rfl, (chk_zero h).2.2⟩) h
theorem readT_cases (s : List UInt8) : (readT s = ([], 2) ∧ 4096 < s.length) ∨ readT s = ([], 4) ∨ ∃ l, readT s = (l, 0) ∧ s = txt l ∧ chk l = 0 ∧ s.length ≤ 4096 := by
  by_cases h : 4096 < s.length
  · exact .inl ⟨readT_large h, h⟩
  · cases hr : rd s with
    | none => exact .inr (.inl (readT_none (by omega) hr))
    | some l =>
      by_cases hc : chk l = 0
      · exact .inr (.inr ⟨l, readT_ok (by omega) hr hc, ((rd_iff _ _).1 hr).1, hc, by omega⟩)
      · refine .inr (.inl (readT_no (by omega) fun l' hl => ?_))
        rw [hr, Option.some.injEq] at hl
        subst hl
        exact hc
theorem readT_small (s : List UInt8) : (readT s).1.length ≤ 20 := by
  rcases readT_cases s with ⟨h, _⟩ | h | ⟨l, h, _, h2, _⟩ <;> rw [h]
  · simp
  · simp
  · exact (chk_zero h2).1

/-- what is wanted by a text -/
def wantedT (s : List UInt8) : List Vr × Int := if (readT s).2 = 0 then (if (readT s).1.any Vr.set = true then ([], 4) else readT s) else ([], (readT s).2)
theorem wantedT_err {s : List UInt8} (h : (readT s).2 ≠ 0) : wantedT s = ([], (readT s).2) := by rw [wantedT, if_neg h]
theorem wantedT_set {s : List UInt8} {v : Vr} (h : (readT s).2 = 0) (hm : v ∈ (readT s).1) (hv : v.set = true) : wantedT s = ([], 4) := by
  rw [wantedT, if_pos h, if_pos (List.any_eq_true.2 ⟨v, hm, hv⟩)]
theorem wantedT_ok {s : List UInt8} (h : (readT s).2 = 0) (hv : ∀ v ∈ (readT s).1, v.set = false) : wantedT s = readT s := by
  rw [wantedT, if_pos h, if_neg]
  intro hh
  obtain ⟨x, hx, e⟩ := List.any_eq_true.1 hh
  rw [hv x hx] at e
  cases e
theorem wantedT_small (s : List UInt8) : (wantedT s).1.length ≤ 20 := by
  have := readT_small s
  rw [wantedT]
  split
  · split
    · simp
    · exact this
  · simp

/-- the same variable -/
def same (v w : Vr) : Bool := decide (v.name = w.name) && decide (v.user = w.user)
/-- the first that is so called, or the one that is wanted -/
def firstOf : List Vr → Vr → Vr
  | [], w => w
  | v :: l, w => if same v w = true then v else firstOf l w
theorem firstOf_at (w : Vr) : ∀ (l : List Vr) (k : Nat) (h : k < l.length), same l[k] w = true → (∀ a (_ : a < k) (h : a < l.length), same l[a] w = false) → firstOf l w = l[k]
  | v :: l, 0, _, hs, _ => by
    simp only [List.getElem_cons_zero] at hs ⊢
    rw [firstOf, if_pos hs]
  | v :: l, k + 1, h, hs, ha => by
    have h0 := ha 0 (by omega) (by simp)
    simp only [List.getElem_cons_zero] at h0
    simp only [List.getElem_cons_succ] at hs ⊢
    rw [firstOf, h0, if_neg (by simp)]
    exact firstOf_at w l k (by simpa using h) hs (fun a h1 h2 => by have := ha (a + 1) (by omega) (by simpa using h2); simpa using this)
theorem firstOf_none (w : Vr) : ∀ (l : List Vr), (∀ a (h : a < l.length), same l[a] w = false) → firstOf l w = w
  | [], _ => rfl
  | v :: l, h => by
    have h0 := h 0 (by simp)
    simp only [List.getElem_cons_zero] at h0
    rw [firstOf, h0, if_neg (by simp)]
    exact firstOf_none w l (fun a ha => by have := h (a + 1) (by simpa using ha); simpa using this)
theorem firstOf_mem (w : Vr) : ∀ l : List Vr, firstOf l w ∈ l ∨ firstOf l w = w
  | [] => .inr rfl
  | v :: l => by
    rw [firstOf]
    split
    · exact .inl List.mem_cons_self
    · rcases firstOf_mem w l with h | h
      · exact .inl (List.mem_cons_of_mem _ h)
      · exact .inr h
theorem firstOf_same (w : Vr) : ∀ l : List Vr, (firstOf l w).name = w.name ∧ (firstOf l w).user = w.user
  | [] => ⟨rfl, rfl⟩
  | v :: l => by
    rw [firstOf]
    split
    · rename_i h
      unfold same at h
      rw [Bool.and_eq_true] at h
      exact ⟨of_decide_eq_true h.1, of_decide_eq_true h.2⟩
    · exact firstOf_same w l
/-- what one that is wanted brings -/
def oneOf (have_ : List Vr) (w : Vr) : List Vr := if w.name = [] then have_.filter (fun v => decide (v.user = w.user)) else [firstOf have_ w]
def pickT (have_ : List Vr) : List Vr → List Vr
  | [] => []
  | w :: l => oneOf have_ w ++ pickT have_ l
theorem pickT_app (h : List Vr) : ∀ a b : List Vr, pickT h (a ++ b) = pickT h a ++ pickT h b
  | [], b => rfl
  | x :: a, b => by rw [List.cons_append, pickT, pickT, pickT_app h a b, List.append_assoc]
def toldT (have_ wanted : List Vr) : List Vr := if wanted = [] then have_ else pickT have_ wanted
/-- what is written of what is told -/
def sayT (l : List Vr) : List UInt8 × Int := if (writeT l).2 = 0 then (0 :: (writeT l).1, 0) else ([], (writeT l).2)
def answerT (have_ : List Vr) : List UInt8 → List UInt8 × Int
  | [] => ([], 4)
  | b :: ask => if b.toNat = 1 then (if (wantedT ask).2 = 0 then sayT (toldT have_ (wantedT ask).1) else ([], (wantedT ask).2)) else ([], 4)
end Go.Proofs.YtbfiompbngpjoaaDoor.E
