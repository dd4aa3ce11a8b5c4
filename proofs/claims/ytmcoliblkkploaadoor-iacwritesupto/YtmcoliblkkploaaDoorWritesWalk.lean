/-
  The walk of farlaw.IacWrites: it returns true and leaves what was there; conditions: the token's bytes, the tokens and their bytes are at most 1048576 each, and the variable internal/bytealg.MaxLen holds some int.
-/
import Derived.Test.YtmcoliblkkploaaDoorTok
import Derived.Test.YtmcoliblkkploaaDoorMgd
import Derived.Test.YtmcoliblkkploaaDoorCutsWalk
namespace Go.Proofs.YtmcoliblkkploaaDoor
open Go.RowKit

theorem RdL.later {w w' : World} {v : Value} {L : List Tk} (h : RdL w v L) (hb : Below w.heap.size w w') : RdL w' v L := by
  obtain ⟨a, cap, rfl, hc, hL⟩ := h
  refine ⟨a, cap, rfl, hc, ?_⟩
  rcases hL with h | ⟨b, off, rfl, hT, hlt⟩
  · exact .inl h
  · exact .inr ⟨b, off, rfl, hT.below hb hlt, by have := hb.size; omega⟩
theorem mergeF_length : ∀ (f : Nat) (l : List Tk), (mergeF f l).length ≤ l.length
  | 0, _ => by simp [mergeF]
  | _ + 1, [] => by simp [mergeF]
  | f + 1, t :: l => by
    rw [mergeF]
    by_cases hk : t.kind = 1
    · have h := mergeF_length f ((t :: l).drop (rowLen (t :: l)))
      rw [List.length_drop, List.length_cons] at h
      have h2 := rowLen_pos t l hk
      have h3 := rowLen_le l
      rw [if_pos hk, List.length_append, List.length_cons]
      split
      · simp only [List.length_nil]; omega
      · simp only [List.length_cons, List.length_nil]; omega
    · rw [if_neg hk, List.length_cons, List.length_cons]
      have h := mergeF_length f l
      omega
theorem merge_length (l : List Tk) : (merge l).length ≤ l.length := mergeF_length _ _
theorem text_plain (dt : List UInt8) : text ⟨1, 0, 0, dt⟩ = (esc dt, 0) := by simp [text, writable, Tk.eq]

set_option maxHeartbeats 8000000 in
set_option maxRecDepth 100000 in
theorem IacWrites_any (t : Tk) (v : Value) (L : List Tk) (m : Int) (w : World) (h : RdL w v L) (ht : t.data.length ≤ 1048576) (hn : L.length ≤ 1048576) (hd : dataSum L ≤ 1048576) (hm : w.cell? ⟨0, 0, none⟩ = some (.int .i64 m)) :
    Calls Tryd.prog 4 #[t.val, v] w fun e w' => e = .returned (.bool true) ∧ Below w.heap.size w w' := by
  have h0 : 0 < w.heap.size := World.block_lt_of_cell? _ _ hm
  have HW := Hid.mk' (fun W (hW : World.cell? W ⟨0, 0, none⟩ = some (.int .i64 m)) => Write_any t m W (by omega) hW)
  have HT := Hid.mk' (fun W (hW : World.cell? W ⟨0, 0, none⟩ = some (.int .i64 m)) => TokText_any t m W (by omega) hW)
  have HP := Hid.mk' (fun W (hW : World.cell? W ⟨0, 0, none⟩ = some (.int .i64 m)) => TokText_any ⟨1, 0, 0, t.data⟩ m W (by simp only; omega) hW)
  rw [text_plain] at HP
  have HE := Hid.mk' (fun W (hW : World.cell? W ⟨0, 0, none⟩ = some (.int .i64 m)) => Escape_any t.data m W (by omega) hW)
  have HR := Hid.mk' h
  clear h
  generalize (text t).1 = U at *
  generalize (text t).2 = E at *
  obtain ⟨kd, cm, op, dt⟩ := t
  simp only [Tk.val] at *
  generalize esc dt = X at *
  have hM0 : Hid (∀ o, (w.alloc o).cell? ⟨0, 0, none⟩ = some (.int .i64 m)) := fun o => by
    rw [World.cell?_alloc_past (hn := by omega)]
    exact hm
  go_enter Tryd.func4, Tryd.ntmps4
  go_wp2_with fail
  refine (HW.out _ (hM0.out _)).mono ?_
  rintro e w1 ⟨rfl, hb1⟩
  have hs1 := hb1.size
  simp only [World.size_alloc] at hs1
  have d1 : ∀ j, w1.cell? ⟨w.heap.size, j, none⟩ = (#[.int .i64 kd, .int .i64 cm, .int .i64 op, .string ⟨dt.toArray⟩] : Array Value)[j]? := later_cells (bfirst hb1)
  have HB1 : Hid (Below w.heap.size w w1) := ((Below.refl w.heap.size w).alloc (Nat.le_refl _) _).trans (hb1.mono (by simp))
  have hM1 : Hid (w1.cell? ⟨0, 0, none⟩ = some (.int .i64 m)) := (HB1.out.cell (p := ⟨0, 0, none⟩) h0).trans hm
  clear hb1
  go_wp2_with fail
  refine (HT.out _ hM1.out).mono ?_
  rintro e w2 ⟨rfl, hb2⟩
  have hs2 := hb2.size
  have d2 : ∀ j, w2.cell? ⟨w.heap.size, j, none⟩ = (#[.int .i64 kd, .int .i64 cm, .int .i64 op, .string ⟨dt.toArray⟩] : Array Value)[j]? := fun j => (hb2.cell (p := ⟨w.heap.size, j, none⟩) (by simp; omega)).trans (d1 j)
  have HB2 : Hid (Below w.heap.size w w2) := HB1.out.trans (hb2.mono (by omega))
  have hM2 : Hid (w2.cell? ⟨0, 0, none⟩ = some (.int .i64 m)) := (HB2.out.cell (p := ⟨0, 0, none⟩) h0).trans hm
  clear hb2 d1
  go_wp2_with fail
  refine (HP.out _ hM2.out).mono ?_
  rintro e w3 ⟨rfl, hb3⟩
  have hs3 := hb3.size
  have d3 : ∀ j, w3.cell? ⟨w.heap.size, j, none⟩ = (#[.int .i64 kd, .int .i64 cm, .int .i64 op, .string ⟨dt.toArray⟩] : Array Value)[j]? := fun j => (hb3.cell (p := ⟨w.heap.size, j, none⟩) (by simp; omega)).trans (d2 j)
  have HB3 : Hid (Below w.heap.size w w3) := HB2.out.trans (hb3.mono (by omega))
  have hM3 : Hid (w3.cell? ⟨0, 0, none⟩ = some (.int .i64 m)) := (HB3.out.cell (p := ⟨0, 0, none⟩) h0).trans hm
  clear hb3 d2
  go_wp2_with fail
  refine (HE.out _ hM3.out).mono ?_
  rintro e w4 ⟨rfl, hb4⟩
  have hs4 := hb4.size
  have HB4 : Hid (Below w.heap.size w w4) := HB3.out.trans (hb4.mono (by omega))
  clear hb4 d3
  have HMG := Hid.mk' (Merge_any w4 v L (HR.out.later HB4.out) (by omega) (by omega))
  go_wp2_with fail
  refine HMG.out.mono ?_
  rintro e w5 ⟨v5, rfl, ho5, hb5⟩
  have hs5 := hb5.size
  have HB5 : Hid (Below w.heap.size w w5) := HB4.out.trans (hb5.mono (by omega))
  have HO5 := Hid.mk' ho5
  have HMD := Hid.mk' (Merged_any w5 v L (HR.out.later HB5.out) (by omega) (by omega))
  clear ho5 hb5 HMG
  go_wp2_with fail
  refine HMD.out.mono ?_
  rintro e w6 ⟨v6, rfl, ho6, hb6⟩
  have hlen : (merge L).length ≤ 1000000000 := Nat.le_trans (merge_length L) (by omega)
  have heq := Equal_any w6 v5 v6 (merge L) (merge L) _ _ (HO5.out.later hb6) ho6 hlen hlen
  rw [(Tk.eqs_iff _ _).2 rfl] at heq
  have HEQ := Hid.mk' heq
  have HB6 : Hid (Below w.heap.size w w6) := HB5.out.trans (hb6.mono (by omega))
  clear ho6 hb6 heq HMD
  go_wp2_with fail
  refine HEQ.out.mono ?_
  rintro e w7 ⟨rfl, q, rfl⟩
  go_wp2
  go_ret
  exact ⟨rfl, below_drewN HB6.out q⟩
end Go.Proofs.YtmcoliblkkploaaDoor
