/-
  The walk of farkeep.IacCuts: it returns true and leaves what was there; conditions: at most 1048576 bytes in all, and the variable internal/bytealg.MaxLen holds some int.
-/
import Derived.Test.YtmcoliblkkploaaDoorEsc
import Derived.Test.YtmcoliblkkploaaDoorApp
import Derived.Test.YtmcoliblkkploaaDoorLaw2
namespace Go.Proofs.YtmcoliblkkploaaDoor
open Go.RowKit

theorem OwnR.later {w w' : World} {base : Nat} {e : TypeId} {size : Nat} {v : Value} {n : Nat} {xs : List Value} (h : OwnR w base e size v n xs) (hb : Below w.heap.size w w') : OwnR w' base e size v n xs :=
  h.keptAt fun k hk => hb.block k (h.lt k hk).2
theorem OwnR.allocd {w : World} {base : Nat} {e : TypeId} {size : Nat} {v : Value} {n : Nat} {xs : List Value} (h : OwnR w base e size v n xs) (o : Obj) : OwnR (w.alloc o) base e size v n xs :=
  h.later ((Below.refl _ _).alloc (Nat.le_refl _) _)
/-- the cells of a block that was laid: in every later world -/
theorem later_cells {w w' : World} {cs : Array Value} {T : TypeId} (hb : Below (w.heap.size + 1) (w.alloc (.cells cs T)) w') : ∀ j, w'.cell? ⟨w.heap.size, j, none⟩ = cs[j]? := fun j =>
  (hb.cell (p := ⟨w.heap.size, j, none⟩) (by simp)).trans (World.cell?_alloc_at _ _ _ _ rfl)
theorem bytes_append (a b : List UInt8) : (⟨a.toArray⟩ ++ ⟨b.toArray⟩ : ByteArray) = ⟨(a ++ b).toArray⟩ := by
  apply ByteArray.ext
  simp
theorem bfirst {w w' : World} {o : Obj} (hb : Below (w.alloc o).heap.size (w.alloc o) w') : Below (w.heap.size + 1) (w.alloc o) w' := by simpa using hb
def Lives (m : Int) : Prop := ∀ W : World, W.cell? ⟨0, 0, none⟩ = some (.int .i64 m) → Calls Tryd.prog 20 #[] W fun e w' => e = .returned (.bool true) ∧ Below W.heap.size W w'
theorem lives (m : Int) : Lives m := fun W hW => lives_any Escape_any W m hW

set_option maxHeartbeats 4000000 in
theorem IacCuts_bad (x : Wr) (a b : List UInt8) (m : Int) (w : World) (hx : x.ok = false) (hb : x.buf.length ≤ 1048576) (hm : w.cell? ⟨0, 0, none⟩ = some (.int .i64 m)) :
    Calls Tryd.prog 5 #[x.val, .string ⟨a.toArray⟩, .string ⟨b.toArray⟩] w fun e w' => e = .returned (.bool true) ∧ Below w.heap.size w w' := by
  have h0 : 0 < w.heap.size := World.block_lt_of_cell? _ _ hm
  have HF := Hid.mk' (fun W => Feed_bad x a W hx (by omega))
  have HL := lives m
  clear hx hb
  obtain ⟨mode, cmd, opt, buf, over⟩ := x
  simp only [Wr.val] at *
  go_enter Tryd.func5, Tryd.ntmps5
  go_wp2_with fail
  refine (HF.out _).mono ?_
  rintro e w1 ⟨rfl, hb1⟩
  have d0 := later_cells (bfirst hb1)
  have HB1 : Hid (Below w.heap.size w w1) := ((Below.refl w.heap.size w).alloc (Nat.le_refl _) _).trans (hb1.mono (by simp))
  have hs1 := hb1.size
  simp only [World.size_alloc] at hs1
  have hM1 : Hid (∀ o, (w1.alloc o).cell? ⟨0, 0, none⟩ = some (.int .i64 m)) := fun o => by
    rw [World.cell?_alloc_past (hn := by omega)]
    exact (HB1.out.cell (p := ⟨0, 0, none⟩) h0).trans hm
  clear hb1
  go_wp2_with fail
  refine (HL _ (hM1.out _)).mono ?_
  rintro e w2 ⟨rfl, hb2⟩
  have d1 := later_cells (bfirst hb2)
  have hs2 := hb2.size
  simp only [World.size_alloc] at hs2
  have d0' : ∀ j, w2.cell? ⟨w.heap.size, j, none⟩ = (#[.int .i64 mode, .int .i64 cmd, .int .i64 opt, .string ⟨buf.toArray⟩, .bool over] : Array Value)[j]? := fun j => (hb2.cell (p := ⟨w.heap.size, j, none⟩) (by simp; omega)).trans ((World.cell?_alloc_past _ _ _ (by omega)).trans (d0 j))
  have HB2 : Hid (Below w.heap.size w w2) := (HB1.out.alloc (by omega) _).trans (hb2.mono (by simp; omega))
  have hM2 : Hid (w2.cell? ⟨0, 0, none⟩ = some (.int .i64 m)) := (HB2.out.cell (p := ⟨0, 0, none⟩) h0).trans hm
  clear hb2 d0
  go_wp2_with fail
  refine (HL _ hM2.out).mono ?_
  rintro e w3 ⟨rfl, hb3⟩
  have e1 : ∀ j, w3.cell? ⟨w1.heap.size, j, none⟩ = (#[.int .i64 mode, .int .i64 cmd, .int .i64 opt, .string ⟨buf.toArray⟩, .bool over] : Array Value)[j]? := fun j => (hb3.cell (p := ⟨w1.heap.size, j, none⟩) (by simp; omega)).trans (d1 j)
  have e0 : ∀ j, w3.cell? ⟨w.heap.size, j, none⟩ = (#[.int .i64 mode, .int .i64 cmd, .int .i64 opt, .string ⟨buf.toArray⟩, .bool over] : Array Value)[j]? := fun j => (hb3.cell (p := ⟨w.heap.size, j, none⟩) (by simp; omega)).trans (d0' j)
  have HB3 : Hid (Below w.heap.size w w3) := HB2.out.trans (hb3.mono (by omega))
  clear hb3 d0' d1
  go_wp2
  go_ret
  exact ⟨rfl, HB3.out⟩

set_option maxHeartbeats 8000000 in
theorem IacCuts_ok (x : Wr) (a b : List UInt8) (m : Int) (w : World) (hx : x.ok = true) (hab : a.length + b.length ≤ 1048576) (hm : w.cell? ⟨0, 0, none⟩ = some (.int .i64 m)) :
    Calls Tryd.prog 5 #[x.val, .string ⟨a.toArray⟩, .string ⟨b.toArray⟩] w fun e w' => e = .returned (.bool true) ∧ Below w.heap.size w w' := by
  have h0 : 0 < w.heap.size := World.block_lt_of_cell? _ _ hm
  have hbx := ok_buf x hx
  have hy := feed_ok x a hx
  have hby := ok_buf _ hy
  obtain ⟨hcw, hct⟩ := feed_cut x a b
  have n1 := feed_count x a hbx
  have n2 := feed_count _ b hby
  have p1 := feed_pot x a
  have p2 := feed_pot (feed x a).wire b
  have n3 := feed_count x (a ++ b) hbx
  have HF1 := Hid.mk' (fun W => Feed_ok x a W hx (by omega))
  have HF2 := Hid.mk' (fun W => Feed_ok (feed x a).wire b W hy (by omega))
  have HF3 := Hid.mk' (fun W => Feed_ok x (a ++ b) W hx (by simp; omega))
  rw [hcw] at HF2
  rw [← bytes_append] at HF3
  have hdl : dataSum ((feed x a).toks ++ (feed (feed x a).wire b).toks) ≤ 100000000 := by rw [dataSum_append]; omega
  have hnl : ((feed x a).toks ++ (feed (feed x a).wire b).toks).length ≤ 100000000 := by rw [List.length_append]; omega
  have n3' : (feed x (a ++ b)).toks.length ≤ 1000000000 := by simp at n3; omega
  have HCT := Hid.mk' hct
  clear hcw hct p1 p2 n3
  generalize (feed (feed x a).wire b).toks = T2 at *
  generalize (feed x a).toks = T1 at *
  generalize (feed x (a ++ b)).toks = T3 at *
  generalize (feed x (a ++ b)).wire = z at *
  generalize (feed x a).wire = y at *
  have HL := lives m
  clear hx hy hby hbx
  obtain ⟨mode, cmd, opt, buf, over⟩ := x
  obtain ⟨ymode, ycmd, yopt, ybuf, yover⟩ := y
  obtain ⟨zmode, zcmd, zopt, zbuf, zover⟩ := z
  simp only [Wr.val] at *
  go_enter Tryd.func5, Tryd.ntmps5
  go_wp2_with fail
  refine (HF1.out _).mono ?_
  rintro e w1 ⟨v1, rfl, ho1, hb1⟩
  have d0 := later_cells (bfirst hb1)
  have HB1 : Hid (Below w.heap.size w w1) := ((Below.refl w.heap.size w).alloc (Nat.le_refl _) _).trans (hb1.mono (by simp))
  have hs1 := hb1.size
  simp only [World.size_alloc] at hs1
  have HO1 := Hid.mk' ho1
  have hM1 : Hid (∀ o, (w1.alloc o).cell? ⟨0, 0, none⟩ = some (.int .i64 m)) := fun o => by
    rw [World.cell?_alloc_past (hn := by omega)]
    exact (HB1.out.cell (p := ⟨0, 0, none⟩) h0).trans hm
  clear hb1 ho1 HF1
  go_wp2_with fail
  refine (HL _ (hM1.out _)).mono ?_
  rintro e w2 ⟨rfl, hb2⟩
  have d1 := later_cells (bfirst hb2)
  have hs2 := hb2.size
  simp only [World.size_alloc] at hs2
  have d0' : ∀ j, w2.cell? ⟨w.heap.size, j, none⟩ = (#[.int .i64 mode, .int .i64 cmd, .int .i64 opt, .string ⟨buf.toArray⟩, .bool over] : Array Value)[j]? := fun j => (hb2.cell (p := ⟨w.heap.size, j, none⟩) (by simp; omega)).trans ((World.cell?_alloc_past _ _ _ (by omega)).trans (d0 j))
  have HB2 : Hid (Below w.heap.size w w2) := (HB1.out.alloc (by omega) _).trans (hb2.mono (by simp; omega))
  have HO2 := Hid.mk' ((HO1.out.allocd _).later hb2)
  clear hb2 d0 HO1 HL hM1
  go_wp2_with fail
  refine (HF2.out _).mono ?_
  rintro e w3 ⟨v2, rfl, ho2, hb3⟩
  have hs3 := hb3.size
  have c0 : ∀ o j, (w3.alloc o).cell? ⟨w.heap.size, j, none⟩ = (#[.int .i64 mode, .int .i64 cmd, .int .i64 opt, .string ⟨buf.toArray⟩, .bool over] : Array Value)[j]? := fun o j => (World.cell?_alloc_past _ _ _ (by omega)).trans ((hb3.cell (p := ⟨w.heap.size, j, none⟩) (by simp; omega)).trans (d0' j))
  have HB3 : Hid (Below w.heap.size w w3) := HB2.out.trans (hb3.mono (by omega))
  have HO1 := Hid.mk' (HO2.out.later hb3)
  have HOB := Hid.mk' ho2
  clear hb3 d0' d1 ho2 HO2 HF2
  go_wp2_with fail
  refine (HF3.out _).mono ?_
  rintro e w4 ⟨v3, rfl, ho3, hb4⟩
  have d3 := later_cells (bfirst hb4)
  have hs4 := hb4.size
  simp only [World.size_alloc] at hs4
  have HB4 : Hid (Below w.heap.size w w4) := (HB3.out.alloc (by omega) _).trans (hb4.mono (by simp; omega))
  have HA := Hid.mk' ((HO1.out.allocd _).later hb4)
  have HBb := Hid.mk' ((HOB.out.allocd _).later hb4)
  have HC := Hid.mk' ho3
  have d3' : ∀ o j, (w4.alloc o).cell? ⟨w3.heap.size, j, none⟩ = (#[.int .i64 zmode, .int .i64 zcmd, .int .i64 zopt, .string ⟨zbuf.toArray⟩, .bool zover] : Array Value)[j]? := fun o j => (World.cell?_alloc_past _ _ _ (by omega)).trans (d3 j)
  clear hb4 ho3 c0 HF3 HO1 HOB d3
  have hcl := fun o => Clone_any (w4.alloc o) v1 T1 (HA.out.allocd o).rdl (by simp only [List.length_append] at hnl; omega)
  have HCL := Hid.mk' hcl
  clear hcl
  go_wp2_with fail
  refine (HCL.out _).mono ?_
  rintro e w5 ⟨v5, rfl, ho5, hb5⟩
  have hs5 := hb5.size
  simp only [World.size_alloc] at hs5
  have HB5 : Hid (Below w.heap.size w w5) := (HB4.out.alloc (by omega) _).trans (hb5.mono (by simp; omega))
  have HB5' := Hid.mk' ((HBb.out.allocd _).later hb5)
  have HC5 := Hid.mk' ((HC.out.allocd _).later hb5)
  clear hb5 d3' HCL
  go_wp2_with (at_builtin; refine wpList_append_toks _ (by rfl) (.tmp 64) (.tmp 65) rfl (w4.heap.size + 1) v5 T1 T2 rfl (by simpa using ho5) v2 rfl HB5'.out.rdl ?c1 ?c2 ?_)
  case c1 => omega
  case c2 => simp only [List.length_append] at hnl; omega
  intro v6 w6 ho6 hgr
  have hs6 := hgr.size
  have HB6 : Hid (Below w.heap.size w w6) := HB5.out.grown hgr (by omega) (fun k hk => by have := (ho5.lt k hk).1; simp at this; omega)
  have HC6 : Hid (OwnR w6 (w3.alloc (.cells #[.int .i64 zmode, .int .i64 zcmd, .int .i64 zopt, .string ⟨zbuf.toArray⟩, .bool zover] 23)).heap.size 34 4 v3 T3.length (tsCells T3)) := HC5.out.keptAt fun k hk => hgr.block k (HC5.out.lt k hk).2 (fun e => by
    have q1 := (ho5.lt k e.symm).1
    have q2 := (HC.out.lt k hk).2
    simp at q1
    omega)
  have ho6' : OwnR w6 (w4.heap.size + 1) 34 4 v6 (T1 ++ T2).length (tsCells (T1 ++ T2)) := by simpa using ho6
  have hmg := Merge_any w6 v6 (T1 ++ T2) ho6'.rdl hnl hdl
  have HMG := Hid.mk' hmg
  clear ho6 ho6' hgr hmg ho5 HB5' HC5
  go_wp2_with fail
  refine HMG.out.mono ?_
  rintro e w7 ⟨v7, rfl, ho7, hb7⟩
  have heq := Equal_any w7 v7 v3 (merge (T1 ++ T2)) T3 _ _ ho7 (HC6.out.later hb7) (by rw [HCT.out]; omega) (by omega)
  rw [(Tk.eqs_iff _ _).2 HCT.out] at heq
  have HEQ := Hid.mk' heq
  have HB7 : Hid (Below w.heap.size w w7) := HB6.out.trans (hb7.mono (by omega))
  clear ho7 hb7 heq HMG
  go_wp2_with fail
  refine HEQ.out.mono ?_
  rintro e w8 ⟨rfl, q, rfl⟩
  go_wp2
  go_ret
  exact ⟨rfl, below_drewN HB7.out q⟩
end Go.Proofs.YtmcoliblkkploaaDoor
