/-
  Contracts of farref.Bytes (at most 100 bytes), strings.ReplaceAll at an old of one byte, farref.escapedVar; conditions: at most 100000 bytes, and the variable internal/bytealg.MaxLen holds some int.
-/
import Derived.Test.YtbfiompbngpjoaaDoorECheck
import Derived.Test.YtbfiompbngpjoaaDoorEShelf
import Derived.Laws.MakeOwn
import Derived.Lib.ConvBytes
namespace Go.Proofs.YtbfiompbngpjoaaDoor.E
open Go.RowKit Go.Lib Go.Proofs.YtbfiompbngpjoaaDoor Go.Proofs.YtbfiompbngpjoaaDoor.W Go.Proofs.YtbfiompbngpjoaaDoor.Q Go.Proofs.YtbfiompbngpjoaaDoor.C

def icells (l : List UInt8) : List Value := l.map fun b => .int .i64 (b.toNat : Int)
theorem OwnB.box {w : World} {g : Nat} {l : List UInt8} (h : Box w g 5 (bcells l)) (hl : l.length ≤ 1000000) : OwnB w 0 (.slice (some ⟨g, 0, none⟩) l.length l.length) l :=
  ⟨by simp [bcells], .inr ⟨g, l.length, _, (0, 0), rfl, Nat.zero_le _, h, .inl rfl, Nat.le_refl _, by unfold maxLen; omega, by simp [bcells], by simp [bcells, List.take_of_length_le]⟩⟩
theorem take_set (l : List Value) (k : Nat) (v : Value) (h : k < l.length) : (l.set k v).take (k + 1) = l.take k ++ [v] := by
  have e : (l.set k v).take k = l.take k := by
    apply List.ext_getElem?
    intro i
    by_cases hi : i < k
    · simp [hi, show k ≠ i by omega]
    · simp [List.getElem?_take, hi]
  rw [List.take_succ_eq_append_getElem (by simpa using h), e]
  simp

def YState (w : World) (N : List UInt8) (i : Value) (wr : World) : Prop :=
  ∃ (k : Nat) (arr : List Value), k ≤ N.length ∧ i = .int .i64 k ∧ Box wr w.heap.size 5 arr ∧ arr.length = N.length ∧ arr.take k = bcells (N.take k) ∧ Below w.heap.size w wr

set_option maxHeartbeats 8000000 in
set_option maxRecDepth 100000 in
theorem Bytes_any (N : List UInt8) (g c : Nat) (w : World) (hn : N.length ≤ 100) (hc : ∀ k (h : k < N.length), w.cell? ⟨g, k, none⟩ = some (.int .i64 (N[k].toNat : Int))) (hg : g < w.heap.size) :
    Calls Tryd.prog 16 #[.slice (some ⟨g, 0, none⟩) N.length c] w fun e w' => e = .returned (.string ⟨N.toArray⟩) ∧ Below w.heap.size w w' := by
  obtain ⟨i0, hi, hz0, hz1, hz2⟩ := info_parts infoByte
  have hmk := run_makeSlice w 34 5 i0 (.int .u8 0) Tryd.underlying34 hi hz0 .i64 .i64 N.length N.length (by omega) (by omega) (by rw [hz1]; simp; omega) (by rw [hz2]; simp; omega) (by omega)
  rw [hz1] at hmk
  simp only [Int.toNat_natCast, Nat.mul_one] at hmk
  have HC := Hid.mk' hc
  have HS : Hid (YState w N (.int .i64 0) (w.alloc (.cells (madeCells (Value.int .u8 0).cells N.length) 5))) :=
    ⟨0, (madeCells (Value.int .u8 0).cells N.length).toList, Nat.zero_le _, rfl, by have := Box.new w 5 (madeCells (Value.int .u8 0).cells N.length).toList; rwa [Array.toArray_toList] at this, by simpa using size_madeCells _ _, by simp [bcells], (Below.refl _ _).alloc (Nat.le_refl _) _⟩
  generalize madeCells (Value.int .u8 0).cells N.length = arr0 at *
  clear hc
  go_enter Tryd.func16, Tryd.ntmps16
  go_wp2_with fail
  go_loopw [11] (fun i wr => YState w N i wr) (fun i _ => N.length - (RowKit.intOf i).toNat)
  case atStart => exact HS.out
  case round =>
    obtain ⟨k, arr, hk, rfl, hbox, hsz, htk, hbl⟩ := hrel
    clear HS hmk
    have HB := Hid.mk' hbl
    have HK := Hid.mk' hbox
    have HT := Hid.mk' htk
    clear htk
    by_cases hl : k < N.length
    · have h1 : wr.cell? ⟨g, k, none⟩ = some (.int .i64 (N[k].toNat : Int)) := (hbl.cell (p := ⟨g, k, none⟩) hg).trans (HC.out k hl)
      have h2 : ∃ x, wr.cell? ⟨w.heap.size, k, none⟩ = some x := ⟨_, hbox.cell (List.getElem?_eq_getElem (show k < arr.length by omega))⟩
      have h3 := hbox.frozen
      obtain ⟨x, h2⟩ := h2
      have hbn := N[k].toNat_lt
      have q1 : (0 : Int) ≤ (N[k].toNat : Int) := by omega
      have q2 : (N[k].toNat : Int) ≤ 255 := by omega
      have hts : N.take (k + 1) = N.take k ++ [N[k]] := List.take_succ_eq_append_getElem hl
      have HTS := Hid.mk' (show bcells (N.take (k + 1)) = bcells (N.take k) ++ [.int .u8 (N[k].toNat : Int)] by unfold bcells; rw [hts, List.map_append]; rfl)
      clear hbl hbox hbn hts
      generalize (N[k].toNat : Int) = y at *
      go_wp2
      go_roundw
      case rel =>
        refine ⟨k + 1, arr.set k (.int .u8 y), by omega, by go_num, HK.out.setCell _ _, by simpa using hsz, ?_, HB.out.setCell (by simp) _⟩
        rw [HTS.out, ← HT.out]
        exact take_set _ _ _ (by omega)
      case measure => simp [RowKit.intOf]; omega
    · obtain rfl : k = N.length := by omega
      have e : arr = bcells N := by
        have := HT.out
        rwa [List.take_length, List.take_of_length_le (by omega)] at this
      subst e
      have hstr : (convert 34 9 (.slice (some ⟨w.heap.size, 0, none⟩) N.length N.length)).run Tryd.prog wr = .ok (.string ⟨N.toArray⟩) wr := run_str (OwnB.box hbox (by omega))
      clear hbl hbox
      go_wp2
      go_ret
      exact ⟨rfl, HB.out⟩

theorem Bytes_ints (N : List UInt8) (w : World) (hn : N.length ≤ 100) :
    Calls Tryd.prog 16 #[.slice (some ⟨w.heap.size, 0, none⟩) N.length N.length] (w.alloc (.cells (icells N).toArray 3)) fun e w' => e = .returned (.string ⟨N.toArray⟩) ∧ Below w.heap.size w w' := by
  have H := Bytes_any N w.heap.size N.length (w.alloc (.cells (icells N).toArray 3)) hn (fun k h => (Box.new w 3 (icells N)).cell (by simp [icells, h])) (by simp)
  refine H.mono ?_
  rintro e w' ⟨rfl, hb⟩
  exact ⟨rfl, ((Below.refl _ _).alloc (Nat.le_refl _) _).trans (hb.mono (by simp))⟩

theorem Bytes_drew (b : UInt8) (W : World) : Calls Tryd.prog 16 #[.slice (some ⟨W.heap.size, 0, none⟩) 1 1] (W.alloc (.cells #[.int .i64 (b.toNat : Int)] 3)).drew fun e w' => e = .returned (.string ⟨#[b]⟩) ∧ Below W.heap.size W w' := by
  have hb := (Box.new W 3 (icells [b])).drew
  have hc : ∀ k (h : k < [b].length), ((W.alloc (.cells (icells [b]).toArray 3)).drew).cell? ⟨W.heap.size, k, none⟩ = some (.int .i64 ([b][k].toNat : Int)) := fun k h => by
    match k, h with
    | 0, _ => exact hb.cell rfl
    | k + 1, h => simp at h
  refine (Bytes_any [b] W.heap.size 1 (W.alloc (.cells (icells [b]).toArray 3)).drew (by simp) hc hb.lt).mono ?_
  rintro e w' ⟨rfl, h⟩
  exact ⟨rfl, (((Below.refl _ _).alloc (Nat.le_refl _) _).drew).trans (h.mono (by simp))⟩

def rep (c : UInt8) (new : List UInt8) : List UInt8 → List UInt8
  | [] => []
  | b :: l => (if b = c then new else [b]) ++ rep c new l

theorem repK (c : UInt8) (new : List UInt8) : ∀ l : List UInt8, Lib.replaceK [c] new (Lib.count l [c]) l = rep c new l
  | [] => rfl
  | b :: l => by
    have ih := repK c new l
    by_cases hb : b = c
    · subst hb
      rw [Lib.count_cons_eq, Nat.add_comm, Lib.replaceK_hit _ _ _ _ 0 (by simp [Lib.index])]
      simp only [List.take_zero, List.nil_append, List.length_singleton, Nat.zero_add, List.drop_succ_cons, List.drop_zero]
      rw [ih, rep, if_pos rfl]
    · rw [Lib.count_cons_ne _ _ _ hb, rep, if_neg hb, ← ih]
      rcases Nat.eq_zero_or_pos (Lib.count l [c]) with h0 | h0
      · rw [h0]; rfl
      · obtain ⟨i, hi⟩ := Lib.index_of_count h0
        obtain ⟨k, hk⟩ : ∃ k, Lib.count l [c] = k + 1 := ⟨Lib.count l [c] - 1, by omega⟩
        have hi2 : Lib.index (b :: l) [c] = ((i + 1 : Nat) : Int) := by
          rw [Lib.index, if_neg (by simp [List.isPrefixOf]; exact fun e => hb e.symm), hi, if_neg (by simp)]
          omega
        rw [hk, Lib.replaceK_hit _ _ _ _ i hi, Lib.replaceK_hit _ _ _ _ (i + 1) hi2]
        simp

theorem rep_all (c : UInt8) (new l : List UInt8) : Lib.replaceAll l [c] new = rep c new l := by
  rw [Lib.replaceAll, Lib.replace]
  by_cases h : ([c] == new) = true
  · have e : new = [c] := (by simpa using h : [c] = new).symm
    subst e
    have : ∀ l : List UInt8, rep c [c] l = l := fun l => by
      induction l with
      | nil => rfl
      | cons b l ih => rw [rep, ih]; by_cases hb : b = c <;> simp [hb]
    rw [this]
    simp
  · rw [if_neg h, Lib.replaceNum, if_pos (.inl (by decide)), repK]

theorem rep_len (c : UInt8) (new : List UInt8) (hn : new.length ≤ 2) (l : List UInt8) : (rep c new l).length ≤ 2 * l.length := by
  induction l with
  | nil => simp [rep]
  | cons b l ih =>
    rw [rep, List.length_append, List.length_cons]
    split
    · omega
    · simp only [List.length_singleton]; omega
theorem rep_nil_len (c : UInt8) (l : List UInt8) : (rep c [] l).length ≤ l.length := by
  induction l with
  | nil => simp [rep]
  | cons b l ih =>
    rw [rep, List.length_append, List.length_cons]
    split <;> simp only [List.length_singleton, List.length_nil] <;> omega
theorem rep_app (c : UInt8) (new a b : List UInt8) : rep c new (a ++ b) = rep c new a ++ rep c new b := by
  induction a with
  | nil => rfl
  | cons x a ih => simp [rep, ih]

theorem Rep_any (c : UInt8) (new l : List UInt8) (m : Int) (w : World) (hl : l.length ≤ 4000000) (hn : new.length ≤ 2) (hm : w.cell? ⟨0, 0, none⟩ = some (.int .i64 m)) :
    Calls Tryd.prog 24 #[.string ⟨l.toArray⟩, .string ⟨#[c]⟩, .string ⟨new.toArray⟩] w fun e w' => e = .returned (.string ⟨(rep c new l).toArray⟩) ∧ Below w.heap.size w w' := by
  have hsz := size_mk l
  have hc : Lib.countB ⟨l.toArray⟩ ⟨#[c]⟩ ≤ l.length + 1 := by
    have := Lib.count_le l [c]
    simpa [Lib.countB] using this
  have H := Tryd.strings_ReplaceAll ⟨l.toArray⟩ ⟨#[c]⟩ ⟨new.toArray⟩ m w (by rw [hsz]; omega) hm (by show 1 ≤ 1; omega) (by
    rw [hsz, size_mk new]
    have : Lib.countB ⟨l.toArray⟩ ⟨#[c]⟩ * new.length ≤ (l.length + 1) * 2 := Nat.mul_le_mul hc hn
    omega)
  simp only [] at H
  rw [rep_all] at H
  exact H


theorem rep_two : ∀ l : List UInt8, rep 3 [2, 3] (rep 1 [2, 1] (rep 0 [2, 0] (rep 2 [2, 2] l))) = esc l
  | [] => rfl
  | b :: l => by
    have ih := rep_two l
    have split : ∀ (c : UInt8) (new a : List UInt8) (r : List UInt8), rep c new (a ++ r) = rep c new a ++ rep c new r := fun c new a r => rep_app c new a r
    have e : rep 2 [2, 2] (b :: l) = (if b = 2 then [2, 2] else [b]) ++ rep 2 [2, 2] l := rfl
    rw [e, split, split, split, ih]
    by_cases h3 : b.toNat ≤ 3
    · rw [esc_mark h3]
      have hc : b = 0 ∨ b = 1 ∨ b = 2 ∨ b = 3 := by
        rcases (by omega : b.toNat = 0 ∨ b.toNat = 1 ∨ b.toNat = 2 ∨ b.toNat = 3) with h | h | h | h
        · exact .inl (UInt8.toNat_inj.1 h)
        · exact .inr (.inl (UInt8.toNat_inj.1 h))
        · exact .inr (.inr (.inl (UInt8.toNat_inj.1 h)))
        · exact .inr (.inr (.inr (UInt8.toNat_inj.1 h)))
      rcases hc with rfl | rfl | rfl | rfl <;> rfl
    · rw [esc_plain h3]
      have n0 : b ≠ 0 := fun e => by subst e; exact h3 (by decide)
      have n1 : b ≠ 1 := fun e => by subst e; exact h3 (by decide)
      have n2 : b ≠ 2 := fun e => by subst e; exact h3 (by decide)
      have n3 : b ≠ 3 := fun e => by subst e; exact h3 (by decide)
      have one : ∀ c new, b ≠ c → rep c new [b] = [b] := fun c new h => by rw [rep, if_neg h]; rfl
      rw [if_neg n2, one 0 _ n0, one 1 _ n1, one 3 _ n3]
      rfl

def XState (w : World) (g : Nat) (L0 L1 L2 L3 : List UInt8) (s0 s9 : Value) (wr : World) : Prop :=
  Hid (Below w.heap.size w wr) ∧ Hid (wr.cell? ⟨g, 0, none⟩ = some (.string ⟨#[0]⟩) ∧ wr.cell? ⟨g, 1, none⟩ = some (.string ⟨#[1]⟩) ∧ wr.cell? ⟨g, 2, none⟩ = some (.string ⟨#[3]⟩)) ∧ g < wr.heap.size ∧ ((s9 = .int .i64 0 ∧ s0 = .string (bs L0)) ∨ (s9 = .int .i64 1 ∧ s0 = .string (bs L1)) ∨ (s9 = .int .i64 2 ∧ s0 = .string (bs L2)) ∨ (s9 = .int .i64 3 ∧ s0 = .string (bs L3)))

set_option maxHeartbeats 8000000 in
set_option maxRecDepth 100000 in
theorem escapedVar_any (l : List UInt8) (m : Int) (w : World) (hl : l.length ≤ 100000) (hm : w.cell? ⟨0, 0, none⟩ = some (.int .i64 m)) :
    Calls Tryd.prog 17 #[.string (bs l)] w fun e w' => e = .returned (.string (bs (esc l))) ∧ Below w.heap.size w w' := by
  have h0 : 0 < w.heap.size := World.block_lt_of_cell? _ _ hm
  have hn0 := rep_len 2 [2, 2] (by simp) l
  have hn1 := rep_len 0 [2, 0] (by simp) (rep 2 [2, 2] l)
  have hn2 := rep_len 1 [2, 1] (by simp) (rep 0 [2, 0] (rep 2 [2, 2] l))
  have H1 := Hid.mk' (Rep_any 2 [2, 2] l m w (by omega) (by simp) hm)
  have H2 : Hid (∀ W, Below w.heap.size w W → _) := fun W hW => Rep_any 0 [2, 0] (rep 2 [2, 2] l) m W (by omega) (by simp) ((hW.cell (p := ⟨0, 0, none⟩) h0).trans hm)
  have H3 : Hid (∀ W, Below w.heap.size w W → _) := fun W hW => Rep_any 1 [2, 1] (rep 0 [2, 0] (rep 2 [2, 2] l)) m W (by omega) (by simp) ((hW.cell (p := ⟨0, 0, none⟩) h0).trans hm)
  have H4 : Hid (∀ W, Below w.heap.size w W → _) := fun W hW => Rep_any 3 [2, 3] (rep 1 [2, 1] (rep 0 [2, 0] (rep 2 [2, 2] l))) m W (by omega) (by simp) ((hW.cell (p := ⟨0, 0, none⟩) h0).trans hm)
  rw [rep_two] at H4
  have e0 : (⟨l.toArray⟩ : ByteArray) = bs l := rfl
  have e1 : (⟨(rep 2 [2, 2] l).toArray⟩ : ByteArray) = bs (rep 2 [2, 2] l) := rfl
  have e2 : (⟨(rep 0 [2, 0] (rep 2 [2, 2] l)).toArray⟩ : ByteArray) = bs (rep 0 [2, 0] (rep 2 [2, 2] l)) := rfl
  have e3 : (⟨(rep 1 [2, 1] (rep 0 [2, 0] (rep 2 [2, 2] l))).toArray⟩ : ByteArray) = bs (rep 1 [2, 1] (rep 0 [2, 0] (rep 2 [2, 2] l))) := rfl
  have e4 : (⟨(esc l).toArray⟩ : ByteArray) = bs (esc l) := rfl
  rw [e0, e1] at H1
  rw [e1, e2] at H2
  rw [e2, e3] at H3
  rw [e3, e4] at H4
  clear hn0 hn1 hn2 e0 e1 e2 e3 e4 hm
  generalize rep 1 [2, 1] (rep 0 [2, 0] (rep 2 [2, 2] l)) = L2 at *
  generalize rep 0 [2, 0] (rep 2 [2, 2] l) = L1 at *
  generalize rep 2 [2, 2] l = L0 at *
  generalize esc l = L3 at *
  generalize bs l = S at *
  have k1 : ([2, 2] : List UInt8).toArray = #[2, 2] := rfl
  have k2 : ([2, 0] : List UInt8).toArray = #[2, 0] := rfl
  have k3 : ([2, 1] : List UInt8).toArray = #[2, 1] := rfl
  have k4 : ([2, 3] : List UInt8).toArray = #[2, 3] := rfl
  rw [k1] at H1
  rw [k2] at H2
  rw [k3] at H3
  rw [k4] at H4
  clear k1 k2 k3 k4
  have c2 : (⟨#[2]⟩ : ByteArray) ++ ⟨#[0]⟩ = ⟨#[2, 0]⟩ := rfl
  have c3 : (⟨#[2]⟩ : ByteArray) ++ ⟨#[1]⟩ = ⟨#[2, 1]⟩ := rfl
  have c4 : (⟨#[2]⟩ : ByteArray) ++ ⟨#[3]⟩ = ⟨#[2, 3]⟩ := rfl
  go_enter Tryd.func17, Tryd.ntmps17
  go_wp2_with fail
  refine H1.out.mono ?_
  rintro e w1 ⟨rfl, hb1⟩
  have HB1 := Hid.mk' hb1
  have hs1 := HB1.out.size
  have HX : Hid (Box (w1.alloc (.cells #[.string ⟨#[0]⟩, .string ⟨#[1]⟩, .string ⟨#[3]⟩] 9)) w1.heap.size 9 [.string ⟨#[0]⟩, .string ⟨#[1]⟩, .string ⟨#[3]⟩]) := Box.new w1 9 _
  have HST : Hid (XState w w1.heap.size L0 L1 L2 L3 (.string (bs L0)) (.int .i64 0) (w1.alloc (.cells #[.string ⟨#[0]⟩, .string ⟨#[1]⟩, .string ⟨#[3]⟩] 9))) :=
    ⟨HB1.out.alloc hs1 _, ⟨HX.out.cell rfl, HX.out.cell rfl, HX.out.cell rfl⟩, HX.out.lt, .inl ⟨rfl, rfl⟩⟩
  clear hb1 H1 HX HB1
  go_wp2_with fail
  go_loopg [0, 9] 4 (fun g s0 s9 wr => XState w w1.heap.size L0 L1 L2 L3 s0 s9 wr ∧ Hid (∀ k : Nat, s9 = .int .i64 (k : Int) → 4 - k ≤ g))
  case atStart => exact ⟨HST.out, fun k _ => by omega⟩
  case round =>
    obtain ⟨⟨HB, HC, hgl, hcase⟩, HG⟩ := hrel
    clear HST
    obtain ⟨q0, q1, q2⟩ := HC.out
    have hs := HB.out.size
    have hkeep : Hid (∀ W, Below wr.heap.size wr W → (W.cell? ⟨w1.heap.size, 0, none⟩ = some (.string ⟨#[0]⟩) ∧ W.cell? ⟨w1.heap.size, 1, none⟩ = some (.string ⟨#[1]⟩) ∧ W.cell? ⟨w1.heap.size, 2, none⟩ = some (.string ⟨#[3]⟩)) ∧ w1.heap.size < W.heap.size) := fun W h => ⟨⟨(h.cell (p := ⟨w1.heap.size, 0, none⟩) hgl).trans HC.out.1, (h.cell (p := ⟨w1.heap.size, 1, none⟩) hgl).trans HC.out.2.1, (h.cell (p := ⟨w1.heap.size, 2, none⟩) hgl).trans HC.out.2.2⟩, by have := h.size; omega⟩
    clear HC
    rcases hcase with ⟨rfl, rfl⟩ | ⟨rfl, rfl⟩ | ⟨rfl, rfl⟩ | ⟨rfl, rfl⟩
    · have hgk := HG.out 0 rfl
      have HH := Hid.mk' (H2.out wr HB.out)
      clear H2 H3 H4 HG
      go_wp2_with fail
      refine HH.out.mono ?_
      rintro e w2 ⟨rfl, hb2⟩
      have HB2 := Hid.mk' (HB.out.trans (hb2.mono hs))
      have HK2 := Hid.mk' (hkeep.out w2 hb2)
      clear hb2 HH HB hkeep
      go_wp2
      go_roundg 3
      case measure => omega
      case rel => exact ⟨⟨HB2, HK2.out.1, HK2.out.2, .inr (.inl ⟨rfl, rfl⟩)⟩, fun k e => by simp at e; omega⟩
    · have hgk := HG.out 1 rfl
      have HH := Hid.mk' (H3.out wr HB.out)
      clear H2 H3 H4 HG
      go_wp2_with fail
      refine HH.out.mono ?_
      rintro e w2 ⟨rfl, hb2⟩
      have HB2 := Hid.mk' (HB.out.trans (hb2.mono hs))
      have HK2 := Hid.mk' (hkeep.out w2 hb2)
      clear hb2 HH HB hkeep
      go_wp2
      go_roundg 2
      case measure => omega
      case rel => exact ⟨⟨HB2, HK2.out.1, HK2.out.2, .inr (.inr (.inl ⟨rfl, rfl⟩))⟩, fun k e => by simp at e; omega⟩
    · have hgk := HG.out 2 rfl
      have HH := Hid.mk' (H4.out wr HB.out)
      clear H2 H3 H4 HG
      go_wp2_with fail
      refine HH.out.mono ?_
      rintro e w2 ⟨rfl, hb2⟩
      have HB2 := Hid.mk' (HB.out.trans (hb2.mono hs))
      have HK2 := Hid.mk' (hkeep.out w2 hb2)
      clear hb2 HH HB hkeep
      go_wp2
      go_roundg 1
      case measure => omega
      case rel => exact ⟨⟨HB2, HK2.out.1, HK2.out.2, .inr (.inr (.inr ⟨rfl, rfl⟩))⟩, fun k e => by simp at e; omega⟩
    · clear H2 H3 H4 HG hkeep
      go_wp2
      go_ret
      exact ⟨rfl, HB.out⟩
end Go.Proofs.YtbfiompbngpjoaaDoor.E
