/-
  Contracts of farref.Between, slices.Index at []int, farref.PageRunes and farref.PageByte: the document's answer of a page is the plain one; conditions: those that each names.
-/
import Derived.Test.YtmniifmgliklnaaDoorGWrite
import Derived.Laws.MakeOwn
import Derived.Laws.CopyOwn
namespace Go.Proofs.YtmniifmgliklnaaDoor.G
open Go.RowKit Go.Lib Go.Proofs.YtmniifmgliklnaaDoor

set_option maxHeartbeats 1000000 in
theorem Between_any (n : Int) (w : World) : Calls Tryd.prog 21 #[.int .i64 n, .int .i64 1, .int .i64 4] w fun e w' => e = .returned (.bool (isP n)) ∧ w' = w := by
  unfold isP
  by_cases h1 : 1 ≤ n
  · by_cases h2 : n ≤ 4
    · rw [decide_eq_true ⟨h1, h2⟩]
      go_enter Tryd.func21, Tryd.ntmps21
      go_wp2
      go_ret
      exact ⟨rfl, rfl⟩
    · rw [decide_eq_false (fun h => h2 h.2)]
      go_enter Tryd.func21, Tryd.ntmps21
      go_wp2
      go_ret
      exact ⟨rfl, rfl⟩
  · rw [decide_eq_false (fun h => h1 h.1)]
    go_enter Tryd.func21, Tryd.ntmps21
    go_wp2
    go_ret
    exact ⟨rfl, rfl⟩

/-- the number that is told -/
def num (R : Option Nat) : Int := match R with | some k => (k : Int) | none => -1

set_option maxHeartbeats 4000000 in
theorem Index_any (w : World) (v : Value) (l : List Int) (r : Int) (R : Option Nat) (hv : RdI w v l) (hn : l.length ≤ 17592186044416)
    (HF : ∀ k (h : k < l.length), l[k] = r → (∀ a (ha : a < k), l[a] ≠ r) → R = some k) (HN : (∀ k (h : k < l.length), l[k] ≠ r) → R = none) :
    Calls Tryd.prog 22 #[v, .int .i64 r] w fun e w' => e = .returned (.int .i64 (num R)) ∧ w' = w := by
  obtain ⟨a, c, rfl, hc, hr⟩ := hv
  have HF' := Hid.mk' HF
  have HN' := Hid.mk' HN
  clear HF HN
  go_enter Tryd.func22, Tryd.ntmps22
  go_wp2_with fail
  go_loopw [8] (fun s8 wr => ∃ k : Nat, k ≤ l.length ∧ s8 = .int .i64 (k : Int) ∧ Hid (∀ a (_ : a < k) (h : a < l.length), l[a] ≠ r) ∧ wr = w) (fun i _ => l.length - (RowKit.intOf i).toNat)
  case atStart => exact ⟨0, Nat.zero_le _, rfl, fun a h => absurd h (Nat.not_lt_zero a), rfl⟩
  case round =>
    obtain ⟨k, hk, rfl, HO, rfl⟩ := hrel
    by_cases hlt : k < l.length
    · rcases hr with h0 | ⟨b1, o1, rfl, t1, _⟩
      · subst h0; simp at hlt
      have e1 := t1 k hlt
      clear t1
      by_cases he : l[k] = r
      · have e : R = some k := HF'.out k hlt he (fun a ha => HO.out a ha (by omega))
        subst e
        rw [he] at e1
        clear HF' HN' he HO
        go_wp2
        go_ret
        exact ⟨rfl, rfl⟩
      · have HO2 : Hid (∀ a (_ : a < k + 1) (h : a < l.length), l[a] ≠ r) := fun a ha h => by
          by_cases e : a = k
          · subst e; exact he
          · exact HO.out a (by omega) h
        have he2 : r ≠ l[k] := fun e => he e.symm
        clear HF' HN' HO he
        generalize l[k] = x at *
        go_wp2
        go_roundw
        case rel => exact ⟨k + 1, by omega, by go_num, HO2, trivial⟩
        case measure => simp [RowKit.intOf]; omega
    · obtain rfl : k = l.length := by omega
      have e : R = none := HN'.out (fun a ha => HO.out a ha ha)
      subst e
      clear HF' HN' HO hr
      go_wp2
      go_ret
      exact ⟨rfl, rfl⟩

/-- all signs of a page -/
def full (p : Int) : List Int := (List.range 256).map (sg p)
theorem full_len (p : Int) : (full p).length = 256 := by simp [full]
/-- a byte's sign ahead of what a page has of its own -/
def bs (p : Int) (b : Nat) : Int := if 127 < b ∧ p ≠ 2 then 65533 else (b : Int)
def bsl (p : Int) : List Int := (List.range 256).map (bs p)
theorem bsl_len (p : Int) : (bsl p).length = 256 := by simp [bsl]
set_option maxRecDepth 100000 in
theorem full1 : bsl 1 = full 1 := by decide +kernel
set_option maxRecDepth 100000 in
theorem full2 : bsl 2 = full 2 := by decide +kernel
set_option maxRecDepth 100000 in
theorem full3 : splice (bsl 3) 95 lineL = full 3 := by decide +kernel
set_option maxRecDepth 100000 in
theorem full4 : (bsl 4).set 35 163 = full 4 := by decide +kernel

theorem take_set (l : List Value) (k : Nat) (v : Value) (h : k < l.length) : (l.set k v).take (k + 1) = l.take k ++ [v] := by
  have e : (l.set k v).take k = l.take k := by
    apply List.ext_getElem?
    intro i
    by_cases hi : i < k
    · simp [hi, show k ≠ i by omega]
    · simp [List.getElem?_take, hi]
  rw [List.take_succ_eq_append_getElem (by simpa using h), e]
  simp
theorem setCell_block {w : World} {b : Nat} {arr : Array Value} {t : TypeId} {fz : Nat × Nat} (h : w.heap[b]? = some (.cells arr t fz)) (k : Nat) (v : Value) : (w.setCell ⟨b, k, none⟩ v).heap[b]? = some (.cells (arr.setIfInBounds k v) t fz) := by
  rw [setCell_eq_setRow w b k arr t fz v h]
  exact setRow_heap w b arr _ t fz h

def PState (w : World) (p : Int) (i : Value) (wr : World) : Prop :=
  ∃ (k : Nat) (arr : Array Value), k ≤ 256 ∧ i = .int .i64 k ∧ wr.heap[w.heap.size]? = some (.cells arr 3 (0, 0)) ∧ arr.size = 256 ∧ arr.toList.take k = icells ((List.range k).map (bs p)) ∧ Below w.heap.size w wr ∧ w.heap.size < wr.heap.size

theorem OwnI.of_block {w : World} {b g : Nat} {l : List Int} (h : w.heap[g]? = some (.cells (icells l).toArray 3 (0, 0))) (hb : b ≤ g) (hl : l.length ≤ 1000000) : OwnI w b (.slice (some ⟨g, 0, none⟩) l.length l.length) l :=
  ⟨by simp [icells], .inr ⟨g, l.length, _, (0, 0), rfl, hb, h, .inl rfl, Nat.le_refl _, by unfold maxLen; omega, by simp [icells], by simp [icells, List.take_of_length_le]⟩⟩

set_option maxHeartbeats 8000000 in
set_option maxRecDepth 100000 in
theorem Runes_any (p : Int) (w : World) (h : isP p = true) :
    Calls Tryd.prog 10 #[.int .i64 p] w fun e w' => e = .returned (.slice (some ⟨w.heap.size, 0, none⟩) 256 256) ∧ OwnI w' w.heap.size (.slice (some ⟨w.heap.size, 0, none⟩) 256 256) (full p) ∧ Below w.heap.size w w' := by
  have HT := Hid.mk' (Between_any p w)
  rw [h] at HT
  obtain ⟨i0, hi, hz0, hz1, hz2⟩ := info_parts infoInt
  have hmk := run_makeSlice w 27 3 i0 (.int .i64 0) Tryd.underlying27 hi hz0 .i64 .i64 256 256 (by omega) (by omega) (by rw [hz1]; decide) (by rw [hz2]; decide) (by omega)
  rw [hz1] at hmk
  have e256 : (256 : Int).toNat = 256 := rfl
  rw [e256] at hmk
  simp only [Nat.mul_one] at hmk
  have HS : Hid (PState w p (.int .i64 0) (w.alloc (.cells (madeCells (Value.int .i64 0).cells 256) 3))) :=
    ⟨0, _, Nat.zero_le _, rfl, (MapKept.heap_alloc w _).1, size_madeCells _ _, by simp [icells], (Below.refl _ _).alloc (Nat.le_refl _) _, by simp⟩
  have HF : Hid (∀ W : World, W.heap[w.heap.size]? = some (.cells (icells (full p)).toArray 3 (0, 0)) → OwnI W w.heap.size (.slice (some ⟨w.heap.size, 0, none⟩) 256 256) (full p)) := fun W hW => by
    have := OwnI.of_block (b := w.heap.size) hW (Nat.le_refl _) (by rw [full_len]; omega)
    rw [full_len] at this
    exact this
  generalize madeCells (Value.int .i64 0).cells 256 = arr0 at *
  go_enter Tryd.func10, Tryd.ntmps10
  go_wp2_with fail
  refine HT.out.mono ?_
  rintro e w1 ⟨rfl, rfl⟩
  go_wp2_with fail
  go_loopw [11] (fun i wr => PState w1 p i wr) (fun i _ => 256 - (RowKit.intOf i).toNat)
  case atStart => exact HS.out
  case round =>
    obtain ⟨k, arr, hk, rfl, hblk, hsz, htk, hbl, hlt⟩ := hrel
    clear HS hmk
    have HB := Hid.mk' hbl
    have HK := Hid.mk' hblk
    have HT := Hid.mk' htk
    clear htk
    by_cases hl : k < 256
    · have h2 : ∃ x, wr.cell? ⟨w1.heap.size, k, none⟩ = some x := ⟨arr[k]'(by omega), by simp [World.cell?, hblk]⟩
      have h3 : ∀ j, wr.frozen? ⟨w1.heap.size, j, none⟩ = false := fun j => by simp [World.frozen?, hblk]
      obtain ⟨x, h2⟩ := h2
      have hts : icells ((List.range (k + 1)).map (bs p)) = icells ((List.range k).map (bs p)) ++ [.int .i64 (bs p k)] := by
        rw [List.range_succ, List.map_append, icells_app]; rfl
      have HTS := Hid.mk' hts
      clear hbl hblk hts HF
      by_cases hc : 127 < k ∧ p ≠ 2
      · have hbs : bs p k = 65533 := if_pos hc
        rw [hbs] at HTS
        obtain ⟨c1, c2⟩ := hc
        have c1' : (127 : Int) < (k : Int) := by omega
        go_wp2
        go_roundw
        case rel =>
          refine ⟨k + 1, (arr.setIfInBounds k (.int .i64 (k : Int))).setIfInBounds k (.int .i64 65533), by omega, by go_num, setCell_block (setCell_block HK.out _ _) _ _, by simpa using hsz, ?_, (HB.out.setCell (by simp) _).setCell (by simp) _, by simpa using hlt⟩
          rw [HTS.out, ← HT.out]
          simp only [Array.toList_setIfInBounds, List.set_set]
          exact take_set _ _ _ (by simpa [hsz] using hl)
        case measure => simp [RowKit.intOf]; omega
      · have hbs : bs p k = (k : Int) := if_neg hc
        rw [hbs] at HTS
        by_cases c1 : 127 < k
        · have c2 : p = 2 := by
            by_cases e : p = 2
            · exact e
            · exact absurd ⟨c1, e⟩ hc
          subst c2
          have c1' : (127 : Int) < (k : Int) := by omega
          clear hc
          go_wp2
          go_roundw
          case rel =>
            refine ⟨k + 1, arr.setIfInBounds k (.int .i64 (k : Int)), by omega, by go_num, setCell_block HK.out _ _, by simpa using hsz, ?_, HB.out.setCell (by simp) _, by simpa using hlt⟩
            rw [HTS.out, ← HT.out]
            simp only [Array.toList_setIfInBounds]
            exact take_set _ _ _ (by simpa [hsz] using hl)
          case measure => simp [RowKit.intOf]; omega
        · have c1' : ¬ (127 : Int) < (k : Int) := by omega
          clear hc
          go_wp2
          go_roundw
          case rel =>
            refine ⟨k + 1, arr.setIfInBounds k (.int .i64 (k : Int)), by omega, by go_num, setCell_block HK.out _ _, by simpa using hsz, ?_, HB.out.setCell (by simp) _, by simpa using hlt⟩
            rw [HTS.out, ← HT.out]
            simp only [Array.toList_setIfInBounds]
            exact take_set _ _ _ (by simpa [hsz] using hl)
          case measure => simp [RowKit.intOf]; omega
    · obtain rfl : k = 256 := by omega
      have harr : arr = (icells (bsl p)).toArray := by
        have := HT.out
        rw [List.take_of_length_le (by simp [hsz])] at this
        exact Array.toList_inj.1 this
      subst harr
      have h3 : ∀ j, wr.frozen? ⟨w1.heap.size, j, none⟩ = false := fun j => by simp [World.frozen?, hblk]
      clear HT hsz hbl
      rcases isP_cases h with rfl | rfl | rfl | rfl
      · rw [full1] at HK
        clear hblk
        go_wp2
        go_ret
        exact ⟨rfl, HF.out _ HK.out, HB.out⟩
      · rw [full2] at HK
        clear hblk
        go_wp2
        go_ret
        exact ⟨rfl, HF.out _ HK.out, HB.out⟩
      · have hbl3 := bsl_len 3
        have hsz3 : (Tryd.prog.info? 3).map (·.size) = some 1 := by rw [hi]; simp [hz1]
        have HN : Hid (∀ j v, (icells lineL)[j]? = some v → (wr.alloc (.cells (icells lineL).toArray 3)).cell? ((⟨wr.heap.size, 0, none⟩ : Addr).add j) = some v) := fun j v hv => World.news_of_block (MapKept.heap_alloc wr (.cells (icells lineL).toArray 3)).1 j v (by simpa using hv)
        have HK1 : Hid ((wr.alloc (.cells (icells lineL).toArray 3)).heap[w1.heap.size]? = some (.cells (icells (bsl 3)).toArray 3 (0, 0))) := by
          show _ = _
          rw [Below.heap_alloc _ _ _ hlt]
          exact HK.out
        have HB1 : Hid (Below w1.heap.size w1 (wr.alloc (.cells (icells lineL).toArray 3))) := HB.out.alloc (by omega) _
        have HSP : Hid (∀ W : World, W.heap[w1.heap.size]? = some (.cells (splice (icells (bsl 3)) 95 (icells lineL)).toArray 3 (0, 0)) → W.heap[w1.heap.size]? = some (.cells (icells (full 3)).toArray 3 (0, 0))) := fun W hW => by
          rw [hW, ← full3]
          simp [splice, icells]
        have hcl : 95 + (icells lineL).length ≤ (icells (bsl 3)).length := by rw [icells_length, icells_length, hbl3]; decide
        clear hblk
        obtain ⟨w4, hcp, HG4, HB4⟩ : ∃ w4, (Builtin.copy_ #[27, 27] 3 #[.slice (some ⟨w1.heap.size, 95, none⟩) 161 161, .slice (some ⟨wr.heap.size, 0, none⟩) 32 32]).run Tryd.prog (wr.alloc (.cells #[.int .i64 160, .int .i64 9670, .int .i64 9618, .int .i64 9225, .int .i64 9228, .int .i64 9229, .int .i64 9226, .int .i64 176, .int .i64 177, .int .i64 9252, .int .i64 9227, .int .i64 9496, .int .i64 9488, .int .i64 9484, .int .i64 9492, .int .i64 9532, .int .i64 9146, .int .i64 9147, .int .i64 9472, .int .i64 9148, .int .i64 9149, .int .i64 9500, .int .i64 9508, .int .i64 9524, .int .i64 9516, .int .i64 9474, .int .i64 8804, .int .i64 8805, .int .i64 960, .int .i64 8800, .int .i64 163, .int .i64 183] 3)) = .ok (.int .i64 32) w4 ∧ Hid (w4.heap[w1.heap.size]? = some (.cells (splice (icells (bsl 3)) 95 (icells lineL)).toArray 3 (0, 0))) ∧ Hid (Below w1.heap.size w1 w4) := by
          have hr := run_copy_row (P := Tryd.prog) (wr.alloc (.cells (icells lineL).toArray 3)) 27 27 3 3 w1.heap.size 95 161 161 ⟨wr.heap.size, 0, none⟩ 32 32 (icells (bsl 3)).toArray 3 (icells lineL) Tryd.underlying27 hsz3 HK1.out rfl HN.out (by simpa using hcl) (icells_one _)
          exact ⟨_, hr, (show _ = _ by simpa [splice] using setRow_heap _ _ _ _ _ _ HK1.out), below_setRow HB1.out (Nat.le_refl _) _⟩
        have HG5 := Hid.mk' (HSP.out w4 HG4.out)
        clear HG4 HK1 HN HSP HB1 hcl
        go_wp2
        go_ret
        exact ⟨rfl, HF.out _ HG5.out, HB4.out⟩
      · have h2 : wr.cell? ⟨w1.heap.size, 35, none⟩ = some (.int .i64 (bs 4 35)) := by simp [World.cell?, hblk, icells, bsl]
        have HK2 : Hid ((wr.setCell ⟨w1.heap.size, 35, none⟩ (.int .i64 163)).heap[w1.heap.size]? = some (.cells (icells (full 4)).toArray 3 (0, 0))) := by
          show _ = _
          rw [setCell_block HK.out, ← full4]
          simp [icells]
        clear hblk
        go_wp2
        go_ret
        exact ⟨rfl, HF.out _ HK2.out, HB.out.setCell (by simp) _⟩
end Go.Proofs.YtmniifmgliklnaaDoor.G
