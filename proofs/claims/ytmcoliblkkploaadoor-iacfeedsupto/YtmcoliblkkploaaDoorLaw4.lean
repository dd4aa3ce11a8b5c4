/-
  Plain laws: tokens that are written are read as those tokens, rows of data made one; no program in sight; no condition.
-/
import Derived.Test.YtmcoliblkkploaaDoorLaw3
namespace Go.Proofs.YtmcoliblkkploaaDoor

def cat (l : List Tk) : List UInt8 := l.flatMap fun t => t.data
theorem join_D : ∀ (m : List Tk) (a x : List UInt8), (∀ t ∈ m, t = D t.data) → ∃ b, m.foldl joinStep (D a, x) = (D b, x ++ cat m)
  | [], a, x, _ => ⟨a, by simp [cat]⟩
  | t :: m, a, x, h => by
    have ht := h t (by simp)
    have hs : ∃ c, joinStep (D a, x) t = (D c, x ++ t.data) := by
      unfold joinStep
      by_cases e : x = []
      · exact ⟨t.data, by rw [if_pos e, ← ht]⟩
      · exact ⟨a, by rw [if_neg e]⟩
    obtain ⟨c, hc⟩ := hs
    obtain ⟨b, hb⟩ := join_D m c (x ++ t.data) (fun u hu => h u (by simp [hu]))
    exact ⟨b, by rw [List.foldl_cons, hc, hb]; simp [cat]⟩
theorem joinRow_D (x : List UInt8) (m : List Tk) (h : ∀ t ∈ m, t = D t.data) : joinRow (D x :: m) = D (x ++ cat m) := by
  have e : joinTo (D x :: m) = m.foldl joinStep (D x, x) := by simp [joinTo, joinStep, D]
  obtain ⟨b, hb⟩ := join_D m x x h
  rw [joinRow, e, hb]
  rfl
theorem rowLen_kind : ∀ (l : List Tk), ∀ t ∈ l.take (rowLen l), t.kind = 1
  | [], t, h => by simp at h
  | u :: l, t, h => by
    by_cases hk : u.kind = 1
    · rw [rowLen_pos u l hk, List.take_succ_cons, List.mem_cons] at h
      rcases h with rfl | h
      · exact hk
      · exact rowLen_kind l t h
    · rw [rowLen, if_neg hk] at h; simp at h
theorem Pr.take {l : List Tk} (h : Pr l) : ∀ t ∈ l.take (rowLen l), t = D t.data := fun t ht => h t (List.mem_of_mem_take ht) (rowLen_kind l t ht)
theorem merge_D (x : List UInt8) (l : List Tk) (h : Pr l) : merge (D x :: l) = tail (x ++ cat (l.take (rowLen l))) ++ merge (l.drop (rowLen l)) := by
  rw [merge_row _ _ rfl, rowLen_pos _ _ rfl, List.take_succ_cons, List.drop_succ_cons, joinRow_D x _ h.take]
  rfl
theorem merge_front (l : List Tk) (h : Pr l) : merge l = tail (cat (l.take (rowLen l))) ++ merge (l.drop (rowLen l)) := by
  cases l with
  | nil => simp [rowLen, cat, tail, merge_nil]
  | cons t l =>
    by_cases hk : t.kind = 1
    · have e := h t (by simp) hk
      rw [rowLen_pos t l hk, List.take_succ_cons, List.drop_succ_cons]
      rw [e, merge_D _ l (fun u hu => h u (by simp [hu]))]
      simp [cat, D]
    · rw [rowLen, if_neg hk]
      simp [cat, tail]
theorem merge_grow (d x : List UInt8) (l : List Tk) (h : Pr l) : merge (tail (d ++ x) ++ l) = merge (tail d ++ D x :: l) := by
  by_cases hd : d = []
  · subst hd
    have e : tail [] = [] := rfl
    rw [e, List.nil_append, List.nil_append]
    by_cases hx : x = []
    · subst hx
      rw [e, List.nil_append, merge_D [] l h, List.nil_append]
      exact merge_front l h
    · rw [show tail x = [D x] from if_neg hx]; rfl
  · rw [show tail d = [D d] from if_neg hd, show tail (d ++ x) = [D (d ++ x)] from if_neg (by simp [hd])]
    show merge (D (d ++ x) :: l) = merge (D d :: D x :: l)
    have h2 : Pr (D x :: l) := fun t ht hk => by
      rcases List.mem_cons.1 ht with rfl | ht
      · rfl
      · exact h t ht hk
    rw [merge_D _ l h, merge_D d (D x :: l) h2, rowLen_pos _ _ rfl, List.take_succ_cons, List.drop_succ_cons]
    simp [cat, D]
theorem merge_part (d : List UInt8) (t : Tk) (l : List Tk) (hk : t.kind ≠ 1) : merge (tail d ++ t :: l) = tail d ++ t :: merge l := by
  unfold tail
  split
  · exact merge_other t l hk
  · rename_i hd
    show merge (D d :: t :: l) = _
    rw [merge_one (D d) (t :: l) (fun _ => ⟨hd, hk⟩), merge_other t l hk]
    rfl

theorem gains : ∀ (l : List Tk) (r : RS), Pr l → (l.foldl gain r).flush.toks = r.toks ++ merge (tail r.data ++ l)
  | [], r, _ => by
    rw [List.foldl_nil, flush_toks_eq, List.append_nil]
    congr 1
    unfold tail
    split
    · rfl
    · rename_i hd; exact (merge_NF [D r.data] ⟨fun _ => ⟨hd, trivial⟩, trivial⟩).symm
  | t :: l, r, h => by
    have hl : Pr l := fun u hu => h u (by simp [hu])
    rw [List.foldl_cons, gains l _ hl]
    by_cases hk : t.kind = 1
    · have e := h t (by simp) hk
      rw [gain, if_pos hk]
      show r.toks ++ merge (tail (r.data ++ t.data) ++ l) = _
      rw [merge_grow r.data t.data l hl, ← e]
    · rw [gain, if_neg hk, merge_part _ t l hk]
      show (r.flush.toks ++ [t]) ++ merge (tail [] ++ l) = _
      rw [flush_toks_eq]
      simp [tail]

/-- those that can be written -/
def told (l : List Tk) : List Tk := l.filter fun t => (text t).2 == 0
def said (l : List Tk) : List UInt8 := (told l).flatMap fun t => (text t).1
theorem text_data (t : Tk) (h : (text t).2 = 0) (hk : t.kind = 1) : t = D t.data := by
  obtain ⟨kd, cm, op, dt⟩ := t
  simp only at hk
  subst hk
  unfold text at h
  cases hw : writable ⟨1, cm, op, dt⟩ with
  | false => rw [hw] at h; simp at h
  | true =>
    simp [writable, Tk.eq] at hw
    obtain ⟨rfl, rfl⟩ := hw
    rfl
theorem told_Pr (l : List Tk) : Pr (told l) := fun t ht hk => by
  simp [told] at ht
  exact text_data t ht.2 hk
theorem read_all : ∀ (l : List Tk) (r : RS), (∀ t ∈ l, (text t).2 = 0) → Calm r → (l.flatMap fun t => (text t).1).foldl RS.take r = l.foldl gain r ∧ Calm (l.foldl gain r)
  | [], r, _, hr => ⟨rfl, hr⟩
  | t :: l, r, h, hr => by
    have ht := h t (by simp)
    have ih := read_all l (gain r t) (fun u hu => h u (by simp [hu])) (hr.gain t)
    rw [List.flatMap_cons, List.foldl_append, read_text t ht r hr]
    exact ih
theorem feed_said (l : List Tk) : (feed zeroW (said l)).toks = merge (told l) ∧ (feed zeroW (said l)).wire = zeroW := by
  have hall : ∀ t ∈ told l, (text t).2 = 0 := fun t ht => by simp [told] at ht; exact ht.2
  obtain ⟨e, hc⟩ := read_all (told l) (RS.ofWr zeroW) hall ⟨rfl, rfl, rfl, rfl, rfl⟩
  have e2 : feedTo zeroW (said l) = (told l).foldl gain (RS.ofWr zeroW) := e
  refine ⟨?_, ?_⟩
  · rw [feed, e2, gains _ _ (told_Pr l)]
    rfl
  · rw [feed, flush_wire, e2]
    obtain ⟨h1, h2, h3, h4, h5⟩ := hc
    simp only [RS.wire, h1, h2, h3, h4, h5]
    rfl
theorem told_snoc (l : List Tk) (k : Nat) (hk : k < l.length) : told (l.take (k + 1)) = if (text l[k]).2 = 0 then told (l.take k) ++ [l[k]] else told (l.take k) := by
  rw [List.take_succ_eq_append_getElem hk]
  unfold told
  rw [List.filter_append]
  by_cases h : (text l[k]).2 = 0 <;> simp [h]
theorem said_snoc (l : List Tk) (k : Nat) (hk : k < l.length) : said (l.take (k + 1)) = if (text l[k]).2 = 0 then said (l.take k) ++ (text l[k]).1 else said (l.take k) := by
  unfold said
  rw [told_snoc l k hk]
  by_cases h : (text l[k]).2 = 0 <;> simp [h]
theorem text_length (t : Tk) : (text t).1.length ≤ 2 * t.data.length + 5 := by
  have := esc_length t.data
  unfold text
  split
  · split
    · simp
    split
    · simp
    split
    · split
      · simp
      · simp; omega
    · simp; omega
  · simp
theorem told_length (l : List Tk) : (told l).length ≤ l.length := List.length_filter_le _ _
theorem told_sum : ∀ l : List Tk, dataSum (told l) ≤ dataSum l
  | [] => by simp [told, dataSum]
  | t :: l => by
    have ih := told_sum l
    unfold told dataSum at *
    rw [List.filter_cons]
    split
    · simp; omega
    · simp; omega
theorem said_length : ∀ l : List Tk, (said l).length ≤ 2 * dataSum l + 5 * l.length
  | [] => by simp [said, told]
  | t :: l => by
    have ih := said_length l
    have ht := text_length t
    unfold said told dataSum at *
    rw [List.filter_cons]
    split
    · simp only [List.flatMap_cons, List.length_append, List.map_cons, List.sum_cons, List.length_cons]; omega
    · simp only [List.map_cons, List.sum_cons, List.length_cons]; omega
theorem dataSum_at (l : List Tk) (k : Nat) (hk : k < l.length) : l[k].data.length ≤ dataSum l := by
  have h := dataSum_drop l k
  rw [List.drop_eq_getElem_cons hk] at h
  unfold dataSum at h
  rw [List.map_cons, List.sum_cons] at h
  exact Nat.le_trans (Nat.le_add_right _ _) h
end Go.Proofs.YtmcoliblkkploaaDoor
