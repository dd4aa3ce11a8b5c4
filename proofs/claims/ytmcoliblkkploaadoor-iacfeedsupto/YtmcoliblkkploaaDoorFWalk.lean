/-
  The walk of farlaw.IacFeeds: it returns true and leaves what was there; conditions: at most 1048576 bytes in all, and the variable internal/bytealg.MaxLen holds some int.
-/
import Derived.Test.YtmcoliblkkploaaDoorFLaw
import Derived.Test.YtmcoliblkkploaaDoorRight
namespace Go.Proofs.YtmcoliblkkploaaDoor
open Go.RowKit

theorem later_cellsF {w w' : World} {cs : Array Value} {T : TypeId} (hb : Below (w.heap.size + 1) (w.alloc (.cells cs T)) w') : ∀ j, w'.cell? ⟨w.heap.size, j, none⟩ = cs[j]? := fun j =>
  (hb.cell (p := ⟨w.heap.size, j, none⟩) (by simp)).trans (World.cell?_alloc_at _ _ _ _ rfl)
theorem bfirstF {w w' : World} {o : Obj} (hb : Below (w.alloc o).heap.size (w.alloc o) w') : Below (w.heap.size + 1) (w.alloc o) w' := by simpa using hb

set_option maxHeartbeats 4000000 in
set_option maxRecDepth 100000 in
theorem IacFeeds_bad (x : Wr) (s : List UInt8) (w : World) (hx : x.ok = false) (hb : x.buf.length ≤ 1048576) :
    Calls Tryd.prog 3 #[x.val, .string ⟨s.toArray⟩] w fun e w' => e = .returned (.bool true) ∧ Below w.heap.size w w' := by
  have HF := Hid.mk' (fun W => Feed_bad x s W hx (by omega))
  have HW := Hid.mk' (fun W => WireRight_any x W (by omega))
  have HC := Hid.mk' (fun W => Check_any x W (by omega))
  rw [hx] at HW HC
  simp only [Bool.false_eq_true, if_false] at HW HC
  clear hx hb
  generalize (⟨s.toArray⟩ : ByteArray) = SS at *
  obtain ⟨mode, cmd, opt, buf, over⟩ := x
  simp only [Wr.val] at *
  go_enter Tryd.func3, Tryd.ntmps3
  go_wp2_with fail
  refine (HF.out _).mono ?_
  rintro e w1 ⟨rfl, hb1⟩
  have d0 := later_cellsF (bfirstF hb1)
  have HB1 : Hid (Below w.heap.size w w1) := ((Below.refl w.heap.size w).alloc (Nat.le_refl _) _).trans (hb1.mono (by simp))
  have hs1 := hb1.size
  simp only [World.size_alloc] at hs1
  have c0 : ∀ o j, (w1.alloc o).cell? ⟨w.heap.size, j, none⟩ = (#[.int .i64 mode, .int .i64 cmd, .int .i64 opt, .string ⟨buf.toArray⟩, .bool over] : Array Value)[j]? := fun o j => (World.cell?_alloc_past _ _ _ (by omega)).trans (d0 j)
  clear hb1
  go_wp2_with fail
  refine (HW.out _).mono ?_
  rintro e w2 ⟨rfl, hb2⟩
  have d1 := later_cellsF (bfirstF hb2)
  have hs2 := hb2.size
  simp only [World.size_alloc] at hs2
  have d0' : ∀ j, w2.cell? ⟨w.heap.size, j, none⟩ = (#[.int .i64 mode, .int .i64 cmd, .int .i64 opt, .string ⟨buf.toArray⟩, .bool over] : Array Value)[j]? := fun j => (hb2.cell (p := ⟨w.heap.size, j, none⟩) (by simp; omega)).trans ((World.cell?_alloc_past _ _ _ (by omega)).trans (d0 j))
  have HB2 : Hid (Below w.heap.size w w2) := (HB1.out.alloc (by omega) _).trans (hb2.mono (by simp; omega))
  clear hb2 d0 c0
  go_wp2_with fail
  refine (HC.out _).mono ?_
  rintro e w3 ⟨rfl, hb3⟩
  have e1 : ∀ j, w3.cell? ⟨w1.heap.size, j, none⟩ = (#[.int .i64 mode, .int .i64 cmd, .int .i64 opt, .string ⟨buf.toArray⟩, .bool over] : Array Value)[j]? := fun j => (hb3.cell (p := ⟨w1.heap.size, j, none⟩) (by simp; omega)).trans (d1 j)
  have e0 : ∀ j, w3.cell? ⟨w.heap.size, j, none⟩ = (#[.int .i64 mode, .int .i64 cmd, .int .i64 opt, .string ⟨buf.toArray⟩, .bool over] : Array Value)[j]? := fun j => (hb3.cell (p := ⟨w.heap.size, j, none⟩) (by simp; omega)).trans (d0' j)
  have HB3 : Hid (Below w.heap.size w w3) := HB2.out.trans (hb3.mono (by omega))
  have he := fun W => Wr.run_eq ⟨mode, cmd, opt, buf, over⟩ ⟨mode, cmd, opt, buf, over⟩ W
  have hse : Wr.eq ⟨mode, cmd, opt, buf, over⟩ ⟨mode, cmd, opt, buf, over⟩ = true := by simp [Wr.eq]
  rw [hse] at he
  simp only [Wr.val] at he
  clear hb3 d0' d1 hse
  go_wp2
  go_ret
  exact ⟨rfl, HB3.out⟩

set_option maxHeartbeats 16000000 in
set_option maxRecDepth 100000 in
theorem IacFeeds_ok (x : Wr) (s : List UInt8) (m : Int) (w : World) (hx : x.ok = true) (hs : s.length ≤ 1048576) (hm : w.cell? ⟨0, 0, none⟩ = some (.int .i64 m)) :
    Calls Tryd.prog 3 #[x.val, .string ⟨s.toArray⟩] w fun e w' => e = .returned (.bool true) ∧ Below w.heap.size w w' := by
  have h0 : 0 < w.heap.size := World.block_lt_of_cell? _ _ hm
  have hbx := ok_buf x hx
  have HF := Hid.mk' (fun W => Feed_ok x s W hx (by omega))
  have HW := Hid.mk' (fun W => WireRight_any x W (by omega))
  have HC := Hid.mk' (fun W => Check_any x W (by omega))
  rw [hx] at HW HC
  simp only [if_true] at HW HC
  have HU : Hid (∀ W : World, W.cell? ⟨0, 0, none⟩ = some (.int .i64 m) → _) := fun W hW => Unread_any x m W hx hW
  have hul := unread_len x hbx
  have hal : (unread x ++ s).length ≤ 2000000 := by rw [List.length_append]; omega
  have HST := Hid.mk' (fun W => Stream_any (unread x ++ s) W (by omega))
  obtain ⟨_, _, _, _, _, hn, htk⟩ := stream_read ((unread x ++ s).length + 1) (unread x ++ s) [] [] (by omega)
  obtain ⟨hft, hfw⟩ := feed_stream (unread x ++ s)
  rw [← feed_unread x s hx] at hft hfw
  obtain ⟨hsl, hsd⟩ := stream_small ((unread x ++ s).length + 1) (unread x ++ s)
  have HWO : Hid (∀ W : World, W.cell? ⟨0, 0, none⟩ = some (.int .i64 m) → _) := fun W hW => WireOf_any ((unread x ++ s).drop (stream ((unread x ++ s).length + 1) (unread x ++ s)).2.1) _ m W (by rw [List.length_drop]; omega) htk hW
  have hap := bytes_join (unread x) s
  have xd := rest_list (unread x ++ s) (stream ((unread x ++ s).length + 1) (unread x ++ s)).2.1
  have hsu : (⟨(unread x).toArray⟩ : ByteArray).size ≤ 10000 := by simpa [ByteArray.size] using hul
  have hss : (⟨s.toArray⟩ : ByteArray).size ≤ 1048576 := by simpa [ByteArray.size] using hs
  have hsa : (⟨(unread x ++ s).toArray⟩ : ByteArray).size ≤ 2000000 := by simpa [ByteArray.size] using hal
  have hns : ((stream ((unread x ++ s).length + 1) (unread x ++ s)).2.1 : Int) ≤ ((⟨(unread x ++ s).toArray⟩ : ByteArray).size : Int) := by
    have : (⟨(unread x ++ s).toArray⟩ : ByteArray).size = (unread x ++ s).length := by simp [ByteArray.size]
    omega
  rw [← hfw] at HWO
  rw [hft] at HF
  have hT1 : (stream ((unread x ++ s).length + 1) (unread x ++ s)).1.length ≤ 100000000 := by omega
  have hT2 : dataSum (stream ((unread x ++ s).length + 1) (unread x ++ s)).1 ≤ 100000000 := by omega
  have n1 := feed_count x s hbx
  rw [hft] at n1
  have hT3 : (merge (stream ((unread x ++ s).length + 1) (unread x ++ s)).1).length ≤ 1000000000 := by omega
  clear hft hfw htk hn hsl hsd n1 hx hal hul
  generalize (⟨((unread x ++ s).drop (stream ((unread x ++ s).length + 1) (unread x ++ s)).2.1).toArray⟩ : ByteArray) = SR at *
  generalize (stream ((unread x ++ s).length + 1) (unread x ++ s)).2.1 = n at *
  generalize (stream ((unread x ++ s).length + 1) (unread x ++ s)).1 = T at *
  generalize (feed x s).wire = y at *
  generalize (⟨(unread x ++ s).toArray⟩ : ByteArray) = SA at *
  generalize (⟨(unread x).toArray⟩ : ByteArray) = SU at *
  generalize (⟨s.toArray⟩ : ByteArray) = SS at *
  clear hbx
  obtain ⟨mode, cmd, opt, buf, over⟩ := x
  obtain ⟨ymode, ycmd, yopt, ybuf, yover⟩ := y
  have he := fun W => Wr.run_eq ⟨ymode, ycmd, yopt, ybuf, yover⟩ ⟨ymode, ycmd, yopt, ybuf, yover⟩ W
  have hse : Wr.eq ⟨ymode, ycmd, yopt, ybuf, yover⟩ ⟨ymode, ycmd, yopt, ybuf, yover⟩ = true := by simp [Wr.eq]
  rw [hse] at he
  clear hse
  have HM : Hid (∀ W, Below w.heap.size w W → W.cell? ⟨0, 0, none⟩ = some (.int .i64 m)) := fun W hb => (hb.cell (p := ⟨0, 0, none⟩) h0).trans hm
  clear hm
  simp only [Wr.val] at *
  go_enter Tryd.func3, Tryd.ntmps3
  go_wp2_with fail
  refine (HF.out _).mono ?_
  rintro e w1 ⟨v1, rfl, ho1, hb1⟩
  have d0 := later_cellsF (bfirstF hb1)
  have HB1 : Hid (Below w.heap.size w w1) := ((Below.refl w.heap.size w).alloc (Nat.le_refl _) _).trans (hb1.mono (by simp))
  have hs1 := hb1.size
  simp only [World.size_alloc] at hs1
  have c0 : ∀ o j, (w1.alloc o).cell? ⟨w.heap.size, j, none⟩ = (#[.int .i64 mode, .int .i64 cmd, .int .i64 opt, .string ⟨buf.toArray⟩, .bool over] : Array Value)[j]? := fun o j => (World.cell?_alloc_past _ _ _ (by omega)).trans (d0 j)
  have HO1 := Hid.mk' ho1
  clear hb1 ho1 HF
  go_wp2_with fail
  refine (HW.out _).mono ?_
  rintro e w2 ⟨rfl, hb2⟩
  have d1 := later_cellsF (bfirstF hb2)
  have hs2 := hb2.size
  simp only [World.size_alloc] at hs2
  have d0' : ∀ j, w2.cell? ⟨w.heap.size, j, none⟩ = (#[.int .i64 mode, .int .i64 cmd, .int .i64 opt, .string ⟨buf.toArray⟩, .bool over] : Array Value)[j]? := fun j => (hb2.cell (p := ⟨w.heap.size, j, none⟩) (by simp; omega)).trans (c0 _ j)
  have HB2 : Hid (Below w.heap.size w w2) := (HB1.out.alloc (by omega) _).trans (hb2.mono (by simp; omega))
  have HO2 := Hid.mk' ((HO1.out.keptAt (w' := w1.alloc _) fun k hk => Below.heap_alloc _ _ _ (HO1.out.lt k hk).2).keptBy hb2)
  clear hb2 d0 c0 HO1
  go_wp2_with fail
  refine (HC.out _).mono ?_
  rintro e w3 ⟨rfl, hb3⟩
  have hs3 := hb3.size
  have e1 : ∀ j, w3.cell? ⟨w1.heap.size, j, none⟩ = (#[.int .i64 ymode, .int .i64 ycmd, .int .i64 yopt, .string ⟨ybuf.toArray⟩, .bool yover] : Array Value)[j]? := fun j => (hb3.cell (p := ⟨w1.heap.size, j, none⟩) (by simp; omega)).trans (d1 j)
  have e0 : ∀ j, w3.cell? ⟨w.heap.size, j, none⟩ = (#[.int .i64 mode, .int .i64 cmd, .int .i64 opt, .string ⟨buf.toArray⟩, .bool over] : Array Value)[j]? := fun j => (hb3.cell (p := ⟨w.heap.size, j, none⟩) (by simp; omega)).trans (d0' j)
  have HB3 : Hid (Below w.heap.size w w3) := HB2.out.trans (hb3.mono (by omega))
  have HO3 := Hid.mk' (HO2.out.keptBy hb3)
  clear hb3 d0' d1 HO2
  go_wp2_with fail
  refine (HU.out w3 (HM.out w3 HB3.out)).mono ?_
  rintro e w4 ⟨rfl, hb4⟩
  have hs4 := hb4.size
  have f1 : ∀ j, w4.cell? ⟨w1.heap.size, j, none⟩ = (#[.int .i64 ymode, .int .i64 ycmd, .int .i64 yopt, .string ⟨ybuf.toArray⟩, .bool yover] : Array Value)[j]? := fun j => (hb4.cell (p := ⟨w1.heap.size, j, none⟩) (by simp; omega)).trans (e1 j)
  have HB4 : Hid (Below w.heap.size w w4) := HB3.out.trans (hb4.mono (by omega))
  have HO4 := Hid.mk' (HO3.out.keptBy hb4)
  clear hb4 e0 e1 HO3 HU
  go_wp2_with fail
  refine (HST.out w4).mono ?_
  rintro e w5 ⟨v5, rfl, ho5, hb5⟩
  have hs5 := hb5.size
  have g1 : ∀ j, w5.cell? ⟨w1.heap.size, j, none⟩ = (#[.int .i64 ymode, .int .i64 ycmd, .int .i64 yopt, .string ⟨ybuf.toArray⟩, .bool yover] : Array Value)[j]? := fun j => (hb5.cell (p := ⟨w1.heap.size, j, none⟩) (by simp; omega)).trans (f1 j)
  have HB5 : Hid (Below w.heap.size w w5) := HB4.out.trans (hb5.mono (by omega))
  have HO5 := Hid.mk' (HO4.out.keptBy hb5)
  have HT5 := Hid.mk' ho5
  clear hb5 ho5 f1 HO4 HST
  go_wp2_with fail
  have HMG : Hid (∀ W, Below w5.heap.size w5 W → Calls Tryd.prog 14 #[v5] W fun e w' => ∃ v', e = .returned v' ∧ OwnR w' W.heap.size 34 4 v' (merge T).length (tsCells (merge T)) ∧ Below W.heap.size W w') := fun W hb => Merged_any W v5 T (HT5.out.keptBy hb).rdl hT1 hT2
  have HEQ : Hid (∀ W v6 b1 b6, OwnR W b1 34 4 v1 (merge T).length (tsCells (merge T)) → OwnR W b6 34 4 v6 (merge T).length (tsCells (merge T)) → Calls Tryd.prog 13 #[v1, v6] W fun e w' => e = .returned (.bool true) ∧ ∃ q, w' = W.drewN q) := fun W v6 b1 b6 h1 h2 => by
    have := Equal_any W v1 v6 (merge T) (merge T) _ _ h1 h2 hT3 hT3
    rw [(Tk.eqs_iff _ _).2 rfl] at this
    exact this
  have HD5 : Hid (Below w5.heap.size w5 w5.drew) := (Below.refl _ _).drew
  have hlt1 : w1.heap.size < w5.heap.size := by omega
  clear HT5
  go_region_with (first
    | (go_at_call 14
       refine (HMG.out _ HD5.out).mono ?_
       rintro e w6 ⟨v6, rfl, ho6, hb6⟩
       have HB6 : Hid (Below w.heap.size w w6) := (HB5.out.trans (HD5.out.mono HB5.out.size)).trans (hb6.mono (by have := HB5.out.size; simp; omega))
       have k6 : ∀ j, w6.cell? ⟨w1.heap.size, j, none⟩ = (#[.int .i64 ymode, .int .i64 ycmd, .int .i64 yopt, .string ⟨ybuf.toArray⟩, .bool yover] : Array Value)[j]? := fun j => (hb6.cell (p := ⟨w1.heap.size, j, none⟩) (by simp; omega)).trans (g1 j)
       have HS6 : Hid (w1.heap.size < w6.heap.size) := by have := hb6.size; simp at this; show _ < _; omega
       have HO6 := Hid.mk' ((HO5.out.keptBy HD5.out).keptBy hb6)
       have HM6 := Hid.mk' ho6
       clear ho6 hb6)
    | (go_at_call 13
       refine (HEQ.out _ _ _ _ HO6.out HM6.out).mono ?_
       rintro e w7 ⟨rfl, q, rfl⟩
       have HB7 : Hid (Below w.heap.size w (w6.drewN q)) := below_drewN HB6.out q)
    | (go_at_call 15
       refine (HWO.out _ (HM.out _ HB7.out)).mono ?_
       rintro e w8 ⟨rfl, hb8⟩
       have HB8 : Hid (Below w.heap.size w w8) := HB7.out.trans (hb8.mono HB7.out.size)
       have k8 : ∀ j, w8.cell? ⟨w1.heap.size, j, none⟩ = (#[.int .i64 ymode, .int .i64 ycmd, .int .i64 yopt, .string ⟨ybuf.toArray⟩, .bool yover] : Array Value)[j]? := fun j => (hb8.cell (p := ⟨w1.heap.size, j, none⟩) (by have := HS6.out; simp; omega)).trans (k6 j)
       clear hb8))
  all_goals
    go_wp2
    go_ret
    exact ⟨rfl, HB8.out⟩
end Go.Proofs.YtmcoliblkkploaaDoor
