/-
  Contract of utf.toRune, utf.Encode and utf.Flush; conditions: at most 1073741824 numbers; for Flush the two tables of unicode/utf8 hold what their initialisers lay.
  Contract of slices.Equal at []int over slices that are read, and of farkeep.utfLives: it returns true; conditions: at most 1000000000 numbers each; the two tables of unicode/utf8 hold what their initialisers lay.
  Contract of farref.Between and farref.Rune; no condition.
-/
import Derived.Test.YtneiiinheimglaaGreatDoorJ4
import Derived.Test.YtneiiinheimglaaGreatDoorJ18
import Derived.Laws.BytesString
namespace Go.Proofs.YtneiiinheimglaaGreatDoor.U
open Go.RowKit Go.Lib Go.Proofs.YtneiiinheimglaaGreatDoor

theorem fold_push (l : List UInt8) : ∀ s : ByteArray, ((l.map fun b => ((b.toNat : Nat) : Int)).foldl (fun r n => r.push (UInt8.ofNat n.toNat)) s) = ⟨(s.data.toList ++ l).toArray⟩ := by
  induction l with
  | nil => intro s; simp
  | cons a l ih =>
    intro s
    rw [List.map_cons, List.foldl_cons, ih]
    congr 1
    simp [ByteArray.push]

theorem run_str {w : World} {base : Nat} {v : Value} {l : List UInt8} (h : OwnR w base 5 1 v l.length (byteCells l)) :
    (convert 50 9 v).run Tryz.prog w = .ok (.string ⟨l.toArray⟩) w := by
  rcases h.form with ⟨rfl, h0⟩ | ⟨g, cap, rfl, _⟩
  · have : l = [] := List.length_eq_zero_iff.1 h0
    subst this
    rw [run_convert_bytes_string _ _ _ _ _ _ _ Tryz.underlying50 Tryz.underlying5 Tryz.underlying9]
    simp [Conv.bytesToString, Sem.run_pure]
    rfl
  · rw [run_convert_bytes_string _ _ _ _ _ _ _ Tryz.underlying50 Tryz.underlying5 Tryz.underlying9]
    have hl := run_loadCells_list (P := Tryz.prog) w ⟨g, 0, none⟩ (byteCells l) (fun j u hu => h.cells (g := g) rfl j u hu)
    have e : (byteCells l).length = l.length := by simp [byteCells]
    rw [e] at hl
    have e2 : byteCells l = (l.map fun b => ((b.toNat : Nat) : Int)).map (Value.int .u8) := by simp [byteCells]
    rw [e2] at hl
    rw [run_bytesToString _ _ _ _ _ hl, fold_push]
    rfl

/-- a slice of ints, read -/
def RdI (w : World) (v : Value) (l : List Int) : Prop :=
  ∃ a cap, v = .slice a l.length cap ∧ l.length ≤ cap ∧ (l = [] ∨ ∃ b off, a = some ⟨b, off, none⟩ ∧ (∀ j (h : j < l.length), w.cell? ⟨b, off + j, none⟩ = some (.int .i64 l[j])) ∧ b < w.heap.size)
theorem RdI.below {w w' : World} {v : Value} {l : List Int} (h : RdI w v l) (hb : Below w.heap.size w w') : RdI w' v l := by
  obtain ⟨a, cap, e, hc, hr⟩ := h
  refine ⟨a, cap, e, hc, ?_⟩
  rcases hr with h | ⟨b, off, e2, hT, hbl⟩
  · exact .inl h
  · exact .inr ⟨b, off, e2, fun j h => (hb.cell (p := ⟨b, off + j, none⟩) hbl).trans (hT j h), by have := hb.size; omega⟩
theorem RdI.own {w : World} {base : Nat} {v : Value} {l : List Int} (h : OwnR w base 3 1 v l.length (icells l)) : RdI w v l := by
  rcases h.form with ⟨rfl, e⟩ | ⟨g, cap, rfl, _, hg, hc⟩
  · have : l = [] := List.length_eq_zero_iff.1 e
    subst this
    exact ⟨none, 0, rfl, by simp, .inl rfl⟩
  · refine ⟨_, cap, rfl, hc, .inr ⟨g, 0, rfl, fun j hj => ?_, hg⟩⟩
    have := h.cells (g := g) rfl j (.int .i64 l[j]) (by simp [icells, hj])
    have hadd : (⟨g, 0, none⟩ : Addr).add j = ⟨g, j, none⟩ := by unfold Addr.add; split <;> simp_all
    rw [hadd] at this
    rw [Nat.zero_add]; exact this

def toRune (c : Int) : Int := if 0 ≤ c ∧ c ≤ 1114111 then c else 65533
theorem toRune_enc (c : Int) : encodeRune (toRune c) = encodeRune c := by
  unfold toRune
  split
  · rfl
  · rename_i h
    unfold encodeRune
    rw [encodeRuneZ_bad (r := c) (by omega)]; rfl


theorem encAll_snoc (l : List Int) (k : Nat) (h : k < l.length) : encAll (l.take (k + 1)) = encAll (l.take k) ++ encodeRune l[k] := by
  unfold encAll
  rw [List.take_succ_eq_append_getElem h, List.map_append, List.flatten_append]
  simp
theorem encAll_take (l : List Int) (k : Nat) : (encAll (l.take k)).length ≤ 4 * l.length := by
  have := encAll_len (l.take k)
  have : (l.take k).length ≤ l.length := List.length_take_le' k l
  omega

def EState (w : World) (l : List Int) (s3 s8 : Value) (wr : World) : Prop :=
  ∃ k : Nat, k ≤ l.length ∧ s8 = .int .i64 (k : Int) ∧ wr.ownsRow w.heap.size 5 1 s3 (encAll (l.take k)).length (byteCells (encAll (l.take k))) ∧ Below w.heap.size w wr




end Go.Proofs.YtneiiinheimglaaGreatDoor.U
namespace Go.Proofs.YtneiiinheimglaaGreatDoor.U
open Go.RowKit Go.Lib Go.Proofs.YtneiiinheimglaaGreatDoor

set_option maxHeartbeats 800000 in
theorem Equal_len (w : World) (a1 a2 : Option Addr) (n1 n2 c1 c2 : Nat) (_hn1 : n1 ≤ 1000000000) (_hn2 : n2 ≤ 1000000000) (hne : n1 ≠ n2) :
    Calls Tryz.prog 6 #[.slice a1 n1 c1, .slice a2 n2 c2] w fun e w' => e = .returned (.bool false) ∧ ∃ q, w' = w.drewN q := by
  have hb : ((n1 : Int) != (n2 : Int)) = true := by rw [bne_iff_ne]; omega
  clear hne
  go_enter Tryz.func6, Tryz.ntmps6
  go_wp2
  go_ret
  exact ⟨rfl, 0, rfl⟩
set_option maxHeartbeats 800000 in
theorem Equal_none (w : World) (a1 a2 : Option Addr) (c1 c2 : Nat) :
    Calls Tryz.prog 6 #[.slice a1 0 c1, .slice a2 0 c2] w fun e w' => e = .returned (.bool true) ∧ ∃ q, w' = w.drewN q := by
  go_enter Tryz.func6, Tryz.ntmps6
  go_wp2_with fail
  go_loop [13] (fun i => i = .int .i64 0) (fun _ => 0)
  case atStart => exact rfl
  case round =>
    subst hrel
    go_wp2
    go_ret
    exact ⟨rfl, 0, rfl⟩

theorem Equal_any (w : World) (v1 v2 : Value) (l m : List Int) (h1 : RdI w v1 l) (h2 : RdI w v2 m) (hn : l.length ≤ 1000000000) (hm : m.length ≤ 1000000000) :
    Calls Tryz.prog 6 #[v1, v2] w fun e w' => e = .returned (.bool (l == m)) ∧ ∃ q, w' = w.drewN q := by
  obtain ⟨a1, c1, rfl, hc1, hr1⟩ := h1
  obtain ⟨a2, c2, rfl, hc2, hr2⟩ := h2
  by_cases hne : l.length = m.length
  · by_cases h0 : l = []
    · have e2 : m = [] := List.length_eq_zero_iff.1 (by rw [← hne, h0]; rfl)
      subst h0; subst e2
      exact Equal_none w a1 a2 c1 c2
    · rcases hr1 with h | ⟨b1, o1, rfl, t1, _⟩
      · exact absurd h h0
      rcases hr2 with h | ⟨b2, o2, rfl, t2, _⟩
      · exact absurd (List.length_eq_zero_iff.1 (by rw [hne, h]; rfl)) h0
      have H := Tryz.slices_Equal_int b1 o1 l.length c1 b2 o2 m.length c2 l m w (Nat.le_refl _) (Nat.le_refl _) (by omega) (by omega) (fun j hj => by rw [t1 j hj]; simp [List.getD, hj]) (fun j hj => by rw [t2 j hj]; simp [List.getD, hj])
      rw [List.take_length, List.take_length] at H
      exact H
  · have : (l == m) = false := by rw [beq_eq_false_iff_ne]; exact fun e => hne (by rw [e])
    rw [this]
    exact Equal_len w a1 a2 _ _ c1 c2 hn hm hne

theorem RdI.alloc {w : World} {v : Value} {l : List Int} (h : RdI w v l) (o : Obj) : RdI (w.alloc o) v l := h.below ((Below.refl _ _).alloc (Nat.le_refl _) _)
theorem RdI.lit (w : World) (l : List Int) (t : TypeId) : RdI (w.alloc (.cells (icells l).toArray t)) (.slice (some ⟨w.heap.size, 0, none⟩) l.length l.length) l := by
  refine ⟨_, _, rfl, Nat.le_refl _, .inr ⟨w.heap.size, 0, rfl, fun j hj => ?_, by simp⟩⟩
  rw [Nat.zero_add, cell_of_row _ _ _ _ _ _ (MapKept.heap_alloc w _).1]
  simp [icells, hj]

theorem lives_rd : rd ([226] ++ [130, 172, 226, 97, 240, 159]) = ([240, 159], [8364, 65533, 97]) := by
  rw [rd_step (by decide) (by decide)]
  have e1 : first ([226] ++ [130, 172, 226, 97, 240, 159]) = (8364, 3) := by decide
  rw [e1]
  simp only [List.cons_append, List.nil_append, List.drop_succ_cons, List.drop_zero]
  rw [rd_step (by decide) (by decide)]
  have e2 : first [226, 97, 240, 159] = (65533, 1) := by decide
  rw [e2]
  simp only [List.drop_succ_cons, List.drop_zero]
  rw [rd_step (by decide) (by decide)]
  have e3 : first [97, 240, 159] = (97, 1) := by decide
  rw [e3]
  simp only [List.drop_succ_cons, List.drop_zero]
  rw [rd_stop (.inr (by decide))]

theorem lives_eq (w1 : World) (v : Value) {base : Nat} (ho : OwnR w1 base 3 1 v (ints [8364, 65533, 97]).length (icells (ints [8364, 65533, 97]))) :
    Calls Tryz.prog 6 #[v, .slice (some ⟨w1.heap.size, 0, none⟩) 3 3] (w1.alloc (.cells #[.int .i64 8364, .int .i64 65533, .int .i64 97] 3)) fun e w' => e = .returned (.bool true) ∧ ∃ q, w' = (w1.alloc (.cells #[.int .i64 8364, .int .i64 65533, .int .i64 97] 3)).drewN q := by
  have H := Equal_any _ v _ (ints [8364, 65533, 97]) [8364, 65533, 97] ((RdI.own ho).alloc _) (RdI.lit w1 [8364, 65533, 97] 3) (by decide) (by decide)
  have e : ((ints [8364, 65533, 97]) == [8364, 65533, 97]) = true := by decide
  rw [e] at H
  exact H

end Go.Proofs.YtneiiinheimglaaGreatDoor.U
namespace Go.Proofs.YtneiiinheimglaaGreatDoor.U
open Go.RowKit Go.Lib Go.Proofs.YtneiiinheimglaaGreatDoor

set_option maxHeartbeats 400000 in
theorem Between_yes (n a b : Int) (w : World) (h1 : a ≤ n) (h2 : n ≤ b) : Calls Tryz.prog 25 #[.int .i64 n, .int .i64 a, .int .i64 b] w fun e w' => e = .returned (.bool true) ∧ w = w' := by
  go_enter Tryz.func25, Tryz.ntmps25
  go_wp2
  go_ret
  exact ⟨rfl, rfl⟩
set_option maxHeartbeats 400000 in
theorem Between_no (n a b : Int) (w : World) (h : ¬ (a ≤ n ∧ n ≤ b)) : Calls Tryz.prog 25 #[.int .i64 n, .int .i64 a, .int .i64 b] w fun e w' => e = .returned (.bool false) ∧ w = w' := by
  by_cases h1 : a ≤ n
  · have h2 : ¬ n ≤ b := fun e => h ⟨h1, e⟩
    clear h
    go_enter Tryz.func25, Tryz.ntmps25
    go_wp2
    go_ret
    exact ⟨rfl, rfl⟩
  · clear h
    go_enter Tryz.func25, Tryz.ntmps25
    go_wp2
    go_ret
    exact ⟨rfl, rfl⟩

def runeZ (c : Int) : Bool := decide ((0 ≤ c ∧ c ≤ 55295) ∨ (57344 ≤ c ∧ c ≤ 1114111))
set_option maxHeartbeats 400000 in
theorem Rune_any (c : Int) (w : World) : Calls Tryz.prog 15 #[.int .i64 c] w fun e w' => e = .returned (.bool (runeZ c)) ∧ w = w' := by
  unfold runeZ
  by_cases h1 : 0 ≤ c ∧ c ≤ 55295
  · rw [decide_eq_true (.inl h1)]
    have H := Between_yes c 0 55295 w h1.1 h1.2
    clear h1
    go_enter Tryz.func15, Tryz.ntmps15
    go_wp2_with fail
    refine H.mono ?_
    rintro e w1 ⟨rfl, rfl⟩
    go_wp2
    go_ret
    exact ⟨rfl, rfl⟩
  have H := Between_no c 0 55295 w h1
  by_cases h2 : 57344 ≤ c ∧ c ≤ 1114111
  · rw [decide_eq_true (.inr h2)]
    have H2 := Between_yes c 57344 1114111 w h2.1 h2.2
    clear h1 h2
    go_enter Tryz.func15, Tryz.ntmps15
    go_wp2_with fail
    refine H.mono ?_
    rintro e w1 ⟨rfl, rfl⟩
    go_wp2_with fail
    refine H2.mono ?_
    rintro e w1 ⟨rfl, rfl⟩
    go_wp2
    go_ret
    exact ⟨rfl, rfl⟩
  · rw [decide_eq_false (fun h => h.elim h1 h2)]
    have H2 := Between_no c 57344 1114111 w h2
    clear h1 h2
    go_enter Tryz.func15, Tryz.ntmps15
    go_wp2_with fail
    refine H.mono ?_
    rintro e w1 ⟨rfl, rfl⟩
    go_wp2_with fail
    refine H2.mono ?_
    rintro e w1 ⟨rfl, rfl⟩
    go_wp2
    go_ret
    exact ⟨rfl, rfl⟩
end Go.Proofs.YtneiiinheimglaaGreatDoor.U
