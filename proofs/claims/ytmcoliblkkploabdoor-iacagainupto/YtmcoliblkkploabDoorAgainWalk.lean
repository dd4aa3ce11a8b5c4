/-
  The walk of farkeep.IacAgain: it returns true and leaves what was there; conditions: at most 1048576 bytes in all, and the variable internal/bytealg.MaxLen holds some int.
-/
import Derived.Test.YtmcoliblkkploabDoorRightWalk
import Derived.Test.YtmcoliblkkploabDoorLaw3
namespace Go.Proofs.YtmcoliblkkploabDoor
open Go.RowKit

theorem bytes_append (a b : List UInt8) : (⟨a.toArray⟩ ++ ⟨b.toArray⟩ : ByteArray) = ⟨(a ++ b).toArray⟩ := by
  apply ByteArray.ext
  simp

theorem text_len (t : Tk) : (text t).1.length ≤ 2 * t.data.length + 5 := by
  have := esc_length t.data
  unfold text
  split
  · split
    · simp
    split
    · simp
    split
    · split
      · simp
      · simp; omega
    · simp; omega
  · simp

set_option maxHeartbeats 4000000 in
set_option maxRecDepth 100000 in
theorem IacAgain_no (x : Wr) (s : List UInt8) (t : Tk) (m : Int) (w : World) (ht : (text t).2 ≠ 0) (hl : t.data.length ≤ 1048576) (hm : w.cell? ⟨0, 0, none⟩ = some (.int .i64 m)) :
    Calls Tryd.prog 3 #[x.val, .string ⟨s.toArray⟩, t.val] w fun e w' => e = .returned (.bool true) ∧ Below w.heap.size w w' := by
  have h0 : 0 < w.heap.size := World.block_lt_of_cell? _ _ hm
  have HW := Hid.mk' (fun W (hW : World.cell? W ⟨0, 0, none⟩ = some (.int .i64 m)) => Write_any t m W (by omega) hW)
  have HL := lives m
  have hq : ((text t).2 != 0) = true := by rw [bne_iff_ne]; exact ht
  generalize (text t).2 = E at *
  generalize (text t).1 = U at *
  clear ht hl
  obtain ⟨mode, cmd, opt, buf, over⟩ := x
  obtain ⟨kd, cm, op, dt⟩ := t
  simp only [Wr.val, Tk.val] at *
  have hM0 : Hid (∀ o o', ((w.alloc o).alloc o').cell? ⟨0, 0, none⟩ = some (.int .i64 m)) := fun o o' => by
    rw [World.cell?_alloc_past (hn := by simp), World.cell?_alloc_past (hn := by omega)]
    exact hm
  go_enter Tryd.func3, Tryd.ntmps3
  go_wp2_with fail
  refine (HW.out _ (hM0.out _ _)).mono ?_
  rintro e w1 ⟨rfl, hb1⟩
  have hs1 := hb1.size
  simp only [World.size_alloc] at hs1
  have HB1 : Hid (Below w.heap.size w w1) := (((Below.refl w.heap.size w).alloc (Nat.le_refl _) _).alloc (by simp) _).trans (hb1.mono (by simp; omega))
  have hM1 : Hid (w1.cell? ⟨0, 0, none⟩ = some (.int .i64 m)) := (HB1.out.cell (p := ⟨0, 0, none⟩) h0).trans hm
  clear hb1
  go_wp2_with fail
  refine (HL _ hM1.out).mono ?_
  rintro e w2 ⟨rfl, hb2⟩
  have HB2 : Hid (Below w.heap.size w w2) := HB1.out.trans (hb2.mono (by omega))
  have hM2 : Hid (w2.cell? ⟨0, 0, none⟩ = some (.int .i64 m)) := (HB2.out.cell (p := ⟨0, 0, none⟩) h0).trans hm
  clear hb2
  go_wp2_with fail
  refine (HL _ hM2.out).mono ?_
  rintro e w3 ⟨rfl, hb3⟩
  have hs2 := HB2.out.size
  have HB3 : Hid (Below w.heap.size w w3) := HB2.out.trans (hb3.mono (by omega))
  clear hb3
  go_wp2
  go_ret
  exact ⟨rfl, HB3.out⟩

set_option maxHeartbeats 4000000 in
set_option maxRecDepth 100000 in
theorem IacAgain_bad (x : Wr) (s : List UInt8) (t : Tk) (m : Int) (w : World) (ht : (text t).2 = 0) (hx : x.ok = false) (hb : x.buf.length ≤ 1048576) (hl : t.data.length ≤ 1048576) (hm : w.cell? ⟨0, 0, none⟩ = some (.int .i64 m)) :
    Calls Tryd.prog 3 #[x.val, .string ⟨s.toArray⟩, t.val] w fun e w' => e = .returned (.bool true) ∧ Below w.heap.size w w' := by
  have h0 : 0 < w.heap.size := World.block_lt_of_cell? _ _ hm
  have HW := Hid.mk' (fun W (hW : World.cell? W ⟨0, 0, none⟩ = some (.int .i64 m)) => Write_any t m W (by omega) hW)
  rw [ht] at HW
  have hc := fun W => Check_any x W (by omega)
  rw [hx] at hc
  simp only [Bool.false_eq_true, if_false] at hc
  have HC := Hid.mk' hc
  clear hc
  have HL := lives m
  generalize (text t).1 = U at *
  clear ht hl hx hb
  obtain ⟨mode, cmd, opt, buf, over⟩ := x
  obtain ⟨kd, cm, op, dt⟩ := t
  simp only [Wr.val, Tk.val] at *
  have hM0 : Hid (∀ o o', ((w.alloc o).alloc o').cell? ⟨0, 0, none⟩ = some (.int .i64 m)) := fun o o' => by
    rw [World.cell?_alloc_past (hn := by simp), World.cell?_alloc_past (hn := by omega)]
    exact hm
  go_enter Tryd.func3, Tryd.ntmps3
  go_wp2_with fail
  refine (HW.out _ (hM0.out _ _)).mono ?_
  rintro e w1 ⟨rfl, hb1⟩
  have hs1 := hb1.size
  simp only [World.size_alloc] at hs1
  have d0 : ∀ j, w1.cell? ⟨w.heap.size, j, none⟩ = (#[.int .i64 mode, .int .i64 cmd, .int .i64 opt, .string ⟨buf.toArray⟩, .bool over] : Array Value)[j]? := fun j =>
    (hb1.cell (p := ⟨w.heap.size, j, none⟩) (by simp; omega)).trans ((World.cell?_alloc_past _ _ _ (by simp)).trans (World.cell?_alloc_at _ _ _ _ rfl))
  have HB1 : Hid (Below w.heap.size w w1) := (((Below.refl w.heap.size w).alloc (Nat.le_refl _) _).alloc (by simp) _).trans (hb1.mono (by simp; omega))
  have hM1 : Hid (w1.cell? ⟨0, 0, none⟩ = some (.int .i64 m)) := (HB1.out.cell (p := ⟨0, 0, none⟩) h0).trans hm
  clear hb1
  go_wp2_with fail
  refine (HL _ hM1.out).mono ?_
  rintro e w2 ⟨rfl, hb2⟩
  have d1 : ∀ j, w2.cell? ⟨w.heap.size, j, none⟩ = (#[.int .i64 mode, .int .i64 cmd, .int .i64 opt, .string ⟨buf.toArray⟩, .bool over] : Array Value)[j]? := fun j =>
    (hb2.cell (p := ⟨w.heap.size, j, none⟩) (by simp; omega)).trans (d0 j)
  have HB2 : Hid (Below w.heap.size w w2) := HB1.out.trans (hb2.mono (by omega))
  have hs2 := hb2.size
  clear hb2 d0
  go_wp2_with fail
  refine (HC.out _).mono ?_
  rintro e w3 ⟨rfl, hb3⟩
  have hs3 := hb3.size
  have HB3 : Hid (Below w.heap.size w w3) := HB2.out.trans (hb3.mono (by omega))
  have hM3 : Hid (w3.cell? ⟨0, 0, none⟩ = some (.int .i64 m)) := (HB3.out.cell (p := ⟨0, 0, none⟩) h0).trans hm
  clear hb3 d1
  go_wp2_with fail
  refine (HL _ hM3.out).mono ?_
  rintro e w4 ⟨rfl, hb4⟩
  have HB4 : Hid (Below w.heap.size w w4) := HB3.out.trans (hb4.mono (by omega))
  clear hb4
  go_wp2
  go_ret
  exact ⟨rfl, HB4.out⟩

set_option maxHeartbeats 8000000 in
set_option maxRecDepth 100000 in
theorem IacAgain_ok (x : Wr) (s : List UInt8) (t : Tk) (m : Int) (w : World) (ht : (text t).2 = 0) (hx : x.ok = true) (hsl : s.length ≤ 1048576) (hl : t.data.length ≤ 1048576) (hm : w.cell? ⟨0, 0, none⟩ = some (.int .i64 m)) :
    Calls Tryd.prog 3 #[x.val, .string ⟨s.toArray⟩, t.val] w fun e w' => e = .returned (.bool true) ∧ Below w.heap.size w w' := by
  have h0 : 0 < w.heap.size := World.block_lt_of_cell? _ _ hm
  have HW := Hid.mk' (fun W (hW : World.cell? W ⟨0, 0, none⟩ = some (.int .i64 m)) => Write_any t m W (by omega) hW)
  rw [ht] at HW
  have hbx := ok_buf x hx
  have hc := fun W => Check_any x W (by omega)
  rw [hx] at hc
  simp only [if_true] at hc
  have HC := Hid.mk' hc
  clear hc
  have htl := text_len t
  have n1 := feed_count x (s ++ [255, 240, 255, 240, 255, 241] ++ (text t).1) hbx
  obtain ⟨hwz, hlast⟩ := feed_again x s t hx ht
  have HF := Hid.mk' (fun W => Feed_ok x (s ++ [255, 240, 255, 240, 255, 241] ++ (text t).1) W hx (by simp; omega))
  rw [hwz, ← bytes_append, ← bytes_append] at HF
  have hnl : (feed x (s ++ [255, 240, 255, 240, 255, 241] ++ (text t).1)).toks.length ≤ 100000000 := by simp only [List.length_append, List.length_cons, List.length_nil] at n1; omega
  have HLA := Hid.mk' hlast
  clear hwz hlast n1
  generalize (feed x (s ++ [255, 240, 255, 240, 255, 241] ++ (text t).1)).toks = T at *
  have HL := lives m
  have htl' : (text t).1.length ≤ 3000000 := by omega
  generalize (text t).1 = U at *
  have heq := Tk.run_eq t t
  rw [(Tk.eq_iff t t).2 rfl] at heq
  clear ht hl hx htl hbx
  obtain ⟨mode, cmd, opt, buf, over⟩ := x
  obtain ⟨kd, cm, op, dt⟩ := t
  simp only [Wr.val, Tk.val] at *
  have HQ := Hid.mk' heq
  clear heq
  have hM0 : Hid (∀ o o', ((w.alloc o).alloc o').cell? ⟨0, 0, none⟩ = some (.int .i64 m)) := fun o o' => by
    rw [World.cell?_alloc_past (hn := by simp), World.cell?_alloc_past (hn := by omega)]
    exact hm
  go_enter Tryd.func3, Tryd.ntmps3
  go_wp2_with fail
  refine (HW.out _ (hM0.out _ _)).mono ?_
  rintro e w1 ⟨rfl, hb1⟩
  have hs1 := hb1.size
  simp only [World.size_alloc] at hs1
  have d0 : ∀ j, w1.cell? ⟨w.heap.size, j, none⟩ = (#[.int .i64 mode, .int .i64 cmd, .int .i64 opt, .string ⟨buf.toArray⟩, .bool over] : Array Value)[j]? := fun j =>
    (hb1.cell (p := ⟨w.heap.size, j, none⟩) (by simp; omega)).trans ((World.cell?_alloc_past _ _ _ (by simp)).trans (World.cell?_alloc_at _ _ _ _ rfl))
  have c0 : ∀ j, w1.cell? ⟨w.heap.size + 1, j, none⟩ = (#[.int .i64 kd, .int .i64 cm, .int .i64 op, .string ⟨dt.toArray⟩] : Array Value)[j]? := fun j =>
    (hb1.cell (p := ⟨w.heap.size + 1, j, none⟩) (by simp)).trans (World.cell?_alloc_at _ _ _ _ (by simp))
  have HB1 : Hid (Below w.heap.size w w1) := (((Below.refl w.heap.size w).alloc (Nat.le_refl _) _).alloc (by simp) _).trans (hb1.mono (by simp; omega))
  have hM1 : Hid (w1.cell? ⟨0, 0, none⟩ = some (.int .i64 m)) := (HB1.out.cell (p := ⟨0, 0, none⟩) h0).trans hm
  clear hb1
  go_wp2_with fail
  refine (HL _ hM1.out).mono ?_
  rintro e w2 ⟨rfl, hb2⟩
  have d1 : ∀ j, w2.cell? ⟨w.heap.size, j, none⟩ = (#[.int .i64 mode, .int .i64 cmd, .int .i64 opt, .string ⟨buf.toArray⟩, .bool over] : Array Value)[j]? := fun j =>
    (hb2.cell (p := ⟨w.heap.size, j, none⟩) (by simp; omega)).trans (d0 j)
  have c1 : ∀ j, w2.cell? ⟨w.heap.size + 1, j, none⟩ = (#[.int .i64 kd, .int .i64 cm, .int .i64 op, .string ⟨dt.toArray⟩] : Array Value)[j]? := fun j =>
    (hb2.cell (p := ⟨w.heap.size + 1, j, none⟩) (by simp; omega)).trans (c0 j)
  have HB2 : Hid (Below w.heap.size w w2) := HB1.out.trans (hb2.mono (by omega))
  have hs2 := hb2.size
  clear hb2 d0 c0
  go_wp2_with fail
  refine (HC.out _).mono ?_
  rintro e w3 ⟨rfl, hb3⟩
  have hs3 := hb3.size
  have d2 : ∀ j, w3.cell? ⟨w.heap.size, j, none⟩ = (#[.int .i64 mode, .int .i64 cmd, .int .i64 opt, .string ⟨buf.toArray⟩, .bool over] : Array Value)[j]? := fun j =>
    (hb3.cell (p := ⟨w.heap.size, j, none⟩) (by simp; omega)).trans (d1 j)
  have c2 : ∀ j, w3.cell? ⟨w.heap.size + 1, j, none⟩ = (#[.int .i64 kd, .int .i64 cm, .int .i64 op, .string ⟨dt.toArray⟩] : Array Value)[j]? := fun j =>
    (hb3.cell (p := ⟨w.heap.size + 1, j, none⟩) (by simp; omega)).trans (c1 j)
  have HB3 : Hid (Below w.heap.size w w3) := HB2.out.trans (hb3.mono (by omega))
  clear hb3 d1 c1
  go_wp2_with fail
  refine (HF.out _).mono ?_
  rintro e w4 ⟨v4, rfl, ho4, hb4⟩
  have hs4 := hb4.size
  have c3 : ∀ o j, (w4.alloc o).cell? ⟨w.heap.size + 1, j, none⟩ = (#[.int .i64 kd, .int .i64 cm, .int .i64 op, .string ⟨dt.toArray⟩] : Array Value)[j]? := fun o j =>
    (World.cell?_alloc_past _ _ _ (by omega)).trans ((hb4.cell (p := ⟨w.heap.size + 1, j, none⟩) (by simp; omega)).trans (c2 j))
  have HB4 : Hid (∀ o, Below w.heap.size w (w4.alloc o)) := fun o => (HB3.out.trans (hb4.mono (by omega))).alloc (by omega) o
  have HO4 := Hid.mk' ho4
  clear hb4 d2 c2 ho4
  obtain ⟨a4, k4, rfl⟩ : ∃ a c, v4 = .slice a T.length c := by
    rcases HO4.out.form with ⟨rfl, e⟩ | ⟨g, cap, rfl, _⟩
    · exact ⟨none, 0, by rw [e]⟩
    · exact ⟨_, _, rfl⟩
  by_cases hU : U = []
  · subst hU
    go_wp2
    go_ret
    exact ⟨rfl, HB4.out _⟩
  · have qU : (U == []) = false := by simp [hU]
    have hla := HLA.out hU
    have hT0 : 0 < T.length := by
      cases T with
      | nil => simp at hla
      | cons a l => simp
    obtain ⟨g, rfl, hg, hT⟩ : ∃ g, a4 = some ⟨g, 0, none⟩ ∧ g < w4.heap.size ∧ Tread w4 g 0 T := by
      rcases HO4.out.form with ⟨e, e2⟩ | ⟨g, cap, e, _, hg, _⟩
      · omega
      · simp at e; obtain ⟨rfl, rfl⟩ := e; exact ⟨g, rfl, hg, HO4.out.tread⟩
    have hlt : T.length - 1 < T.length := by omega
    have hTl : T[T.length - 1] = ⟨kd, cm, op, dt⟩ := by
      rw [List.getLast?_eq_getElem?, List.getElem?_eq_getElem hlt] at hla
      exact Option.some.inj hla
    obtain ⟨t0, t1, t2, t3⟩ := hT _ hlt
    rw [hTl] at t0 t1 t2 t3
    simp only [Nat.zero_add] at t0 t1 t2 t3
    clear hT hTl hla hlt HLA HO4 HF
    generalize hn : T.length = n at *
    clear hn
    obtain ⟨k, rfl⟩ : ∃ k, n = k + 1 := ⟨n - 1, by omega⟩
    simp only [Nat.add_sub_cancel] at t0 t1 t2 t3
    go_wp2_with fail
    go_quiet (fail)
    go_wp2
    go_ret
    exact ⟨rfl, below_drewN (HB4.out _) _⟩
end Go.Proofs.YtmcoliblkkploabDoor
