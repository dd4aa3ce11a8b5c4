/-
  Contracts of the small functions of package parse's reader: tell, end, ignore, putInter, putArgs, the closure that abandons; condition: at most 2^40 acts.
-/
import Derived.Test.YtneiiinheimglaaDoorBMem
import Derived.Deep.RegionLaw
import Derived.BigRegion
namespace Go.Proofs.YtneiiinheimglaaDoor.B
open Go.RowKit Go.Lib Go.Proofs.YtneiiinheimglaaDoor Go.Proofs.YtneiiinheimglaaDoor.W Go.Proofs.YtneiiinheimglaaDoor.Q Go.Proofs.YtneiiinheimglaaDoor.C Go.Proofs.YtneiiinheimglaaDoor.Z

theorem rcells_acts (p : Ps) (u v : Value) : (rcells p u).set 5 v = rcells p v := rfl
theorem sizeAct : (Tryd.prog.info? 35).map (·.size) = some 6 := by kernel_rfl
theorem sizePs : (Tryd.prog.info? 23).map (·.size) = some 5 := by kernel_rfl
theorem exec_loadA (ρ : Operand → Value) (x : Operand) (dst : Option Tmp) (t : TypeId) (pos : String) (af : Array Edge) (g : Option (Nat × Bool)) (w : World) (h : Lies w (ρ x) 6) :
    (execOp ρ { dst := dst, op := .load 35 x, type := t, pos := pos, after := af, guard := g }).run Tryd.prog w = .ok (.value (.agg (Q.rowAt w (ρ x) 6).toArray)) w :=
  exec_load 35 6 _ Tryd.underlying35 rfl sizeAct ρ x dst t pos af g w h
attribute [local go_sem ↓] exec_loadA

/-- .. as a step of a region that draws -/
theorem rstep_act {base : Nat} {w : World} {b bb : Nat} {p : Ps} {ad : Option Addr} {cap : Nat} {xs : List (Ac × Value)} {ops : Array Oper} {o : Oper} {a : Act} {K : Act → World → Prop} {Q : Exit → Act → World → Prop} {E : Prop} (hgd : o.guard = none) (h : PS base w b bb p ad cap xs) (s x : Operand)
    (ho : o.op = .call { callee := .builtin .append, args := #[s, x], argTypes := #[25, 25] }) (hs : a.eval s = .slice ad xs.length cap)
    (y : Ac) (vy : Value) (hv : RdT w vy y.args) (g0 c : Nat) (hg0 : w.heap[g0]? = some (.cells (acells y vy).toArray 35 (0, 0))) (hx : a.eval x = .slice (some ⟨g0, 0, none⟩) 1 c) (hn : xs.length ≤ 1099511627776)
    (next : ∀ ad' n' cap' w', w'.cell? ⟨b, 5, none⟩ = some (.slice ad xs.length cap) → w'.frozen? ⟨b, 5, none⟩ = false →
      Hid (PX base (w'.setCell ⟨b, 5, none⟩ (.slice ad' n' cap')) b bb p (xs.map Prod.fst ++ [y])) → Hid (Fr base w (w'.setCell ⟨b, 5, none⟩ (.slice ad' n' cap'))) → K (a.put o.dst (.slice ad' n' cap')) w') :
    if Region.wanted o (yielded ops a.tmps) = true then Oper.wp Tryd.prog o a w K Q else E := by
  have hw : Region.wanted o (yielded ops a.tmps) = true := by simp [Region.wanted, hgd]
  rw [if_pos hw]
  obtain ⟨ad', cap', w', hr, ho2, hB, hK, hsz⟩ := run_append_a w o.type base ad cap xs h.own y vy hv.one g0 c hg0 h.base_le hn
  unfold Oper.wp execOp
  simp only [ho, resolve, invoke, builtin, Sem.run_bind, Sem.run_pure, Result.andThen_ok, List.map_toArray, List.map_cons, List.map_nil, hs, hx, hr]
  have hbx : Box w' b 41 (rcells p (.slice ad xs.length cap)) := hK _ _ _ _ ra h.box
  have hcl : Box w' bb 54 [.pointer (some ⟨b, 0, none⟩)] := hK _ _ _ _ pa h.cl
  have hnb : ∀ k, (Value.slice ad' (xs ++ [(y, vy)]).length cap').ownBlock = some k → k ≠ b := fun k hk e2 => by
    subst e2
    obtain ⟨cur, fz, hc⟩ := OwnR.typed ho2 k hk
    unfold Box at hbx
    rw [hbx] at hc
    simp only [Option.some.injEq, Obj.cells.injEq] at hc
    exact ra hc.2.1
  refine next ad' _ cap' w' (hbx.cell (j := 5) rfl) (hbx.frozen 5) ⟨ad', cap', xs ++ [(y, vy)], by rw [List.map_append]; rfl, ⟨?_, h.lo, ?_, h.lo2, ho2.keptAt (fun k hk => setCell_other _ _ _ _ (hnb k hk)), ?_⟩⟩ fun B W hBb hW => (hB B W hBb hW).setCell (p := ⟨b, 5, none⟩) (by have := h.lo; show B ≤ b; omega) _
  · have := hbx.setCell 5 (.slice ad' (xs ++ [(y, vy)]).length cap')
    rwa [rcells_acts] at this
  · exact Box.kept (w := w') hcl (setCell_other _ _ _ _ h.bbne)
  · intro x hx
    rw [List.mem_append] at hx
    have hkeep : KeepI w (w'.setCell ⟨b, 5, none⟩ (.slice ad' (xs ++ [(y, vy)]).length cap')) := KeepI.trans (fun k cs fz hk => hK k cs _ fz (Ne.symm ai) hk) (KeepI.but hbx ri (fun k hk => setCell_other _ _ _ _ hk))
    rcases hx with hx | hx
    · exact (h.arg x hx).keep hkeep
    · rw [List.mem_singleton.1 hx]
      exact hv.keep hkeep

set_option maxHeartbeats 4000000 in
set_option maxRecDepth 100000 in
theorem tell_any (base b bb : Nat) (p : Ps) (L : List Ac) (y : Ac) (vy : Value) (w : World) (h : PX base w b bb p L) (hv : RdT w vy y.args) (hn : L.length ≤ 1099511627776) :
    Calls Tryd.prog 23 #[.pointer (some ⟨b, 0, none⟩), .agg (acells y vy).toArray] w fun e w' => e = .returned (.tuple #[]) ∧ PX base w' b bb p (L ++ [y]) ∧ Fr base w w' := by
  obtain ⟨ad, cap, xs, rfl, h⟩ := h
  have hn1 : xs.length ≤ 1099511627776 := by simpa using hn
  have H := Hid.mk' (fun w1 (m1 : Made w w1 35 (acells y vy)) => show PS base w1.drew b bb p ad cap xs ∧ RdT w1.drew vy y.args ∧ Fr base w w1.drew from
    ⟨(h.move m1.other).drewN 1, hv.keep (fun k cs fz hk => (m1.other k (Array.getElem?_eq_some_iff.1 hk).1).trans hk), fun B W hB hW => (m1.below B W (by have := h.base_le; omega) hW).drew⟩)
  have HBX := Hid.mk' (fun w1 (m1 : Made w w1 35 (acells y vy)) => m1.box.drew)
  clear h hv hn
  go_enter Tryd.func23, Tryd.ntmps23
  go_wp2_with (refine wpList_box (acells y vy) _ rfl _ rfl rfl ?_; intro w1 m1)
  obtain ⟨h1, v1, F1⟩ := H.out w1 m1
  have bx := HBX.out w1 m1
  have hL : Lies w1.drew (.pointer (some ⟨w.heap.size, 0, none⟩)) 6 := bx.lies0 rfl
  have hR : Q.rowAt w1.drew (.pointer (some ⟨w.heap.size, 0, none⟩)) 6 = [.int .i64 y.kind, .int .i64 y.code, .int .i64 y.mark, .string (bs y.inter), vy, .string (bs y.text)] := bx.row0 rfl
  have c5 := h1.c5
  have f5 := h1.fr 5
  have hlt := h1.lt
  have HA := Hid.mk' (h1.alloc (.cells (acells y vy).toArray 35))
  have HG := Hid.mk' (show (w1.drew.alloc (.cells (acells y vy).toArray 35)).heap[w1.heap.size]? = some (.cells (acells y vy).toArray 35 (0, 0)) from (Box.new w1.drew 35 (acells y vy)))
  have HV := Hid.mk' (v1.keep ((KeepI.refl w1.drew).alloc (.cells (acells y vy).toArray 35)))
  have HF := Hid.mk' (show Fr base w (w1.drew.alloc (.cells (acells y vy).toArray 35)) from fun B W hB hW => (F1 B W hB hW).alloc (by have := h1.base_le; omega) _)
  have c5a : (w1.alloc (.cells #[.int .i64 y.kind, .int .i64 y.code, .int .i64 y.mark, .string (bs y.inter), vy, .string (bs y.text)] 35)).cell? ⟨b, 5, none⟩ = some (.slice ad xs.length cap) := HA.out.c5
  clear h1 bx v1 F1 H HBX m1
  go_region_law ((
    refine rstep_act rfl HA.out (.tmp 8) (.tmp 10) rfl (by simp [Act.eval]) y vy HV.out w1.heap.size 1 HG.out (by simp [Act.eval]) hn1 ?_
    intro ad' n' cap' w' d5 g5 T1 B1))
  all_goals
    go_end0
    exact ⟨rfl, T1.out, HF.out.trans B1.out⟩
end Go.Proofs.YtneiiinheimglaaDoor.B
