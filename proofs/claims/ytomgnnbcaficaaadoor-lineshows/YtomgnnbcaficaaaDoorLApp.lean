/-
  Appends of an editor at work, for the walk; slices of its line; contract of isKey; conditions: the bounds that each law names.
-/
import Derived.Test.YtomgnnbcaficaaaDoorLMem
import Derived.Test.YtomgnnbcaficaaaDoorKCheck
import Derived.Deep.RegionLaw
namespace Go.Proofs.YtomgnnbcaficaaaDoor.L
open Go.RowKit Go.Lib Go.Proofs.YtomgnnbcaficaaaDoor Go.Proofs.YtomgnnbcaficaaaDoor.W Go.Proofs.YtomgnnbcaficaaaDoor.Q

theorem src_one (w : World) (c : UInt8) (cp : Nat) : Src Tryd.prog 1 48 (.slice (some ⟨w.heap.size, 0, none⟩) 1 cp) 1 (bcells [c]) (w.alloc (.cells #[.int .u8 (c.toNat : Int)] 5)) :=
  Src.ofSlice _ Tryd.underlying48 _ _ _ _ rfl (fun j u hu => World.news_of_block (MapKept.heap_alloc w (.cells #[.int .u8 (c.toNat : Int)] 5)).1 j u (by simpa [bcells] using hu)) (bcells_one [c])
theorem src_one' (w : World) (H : Nat) (hH : w.heap.size = H) (c : UInt8) (cp : Nat) : Src Tryd.prog 1 48 (.slice (some ⟨H, 0, none⟩) 1 cp) 1 (bcells [c]) (w.alloc (.cells #[.int .u8 (c.toNat : Int)] 5)) := by
  subst hH
  exact src_one w c cp
theorem src_line (w W : World) (y : ByteArray) (cp : Nat) (l : List UInt8) (hy : y = bs l) (hW : W.heap = (w.alloc (.cells #[.string y] 9)).heap) : Src Tryd.prog 1 31 (.slice (some ⟨w.heap.size, 0, none⟩) 1 cp) 1 (scells [l]) W := by
  subst hy
  exact Src.ofSlice _ Tryd.underlying31 _ _ _ _ rfl (fun j u hu => World.news_of_block (by rw [hW]; exact (MapKept.heap_alloc w (.cells #[.string (bs l)] 9)).1) j u (by simpa [scells] using hu)) (scells_one [l])
theorem src_str (w : World) (l : List UInt8) : Src Tryd.prog 1 9 (.string (bs l)) l.length (bcells l) w := by
  have := Src.ofString (P := Tryd.prog) w Tryd.underlying9 (bs l)
  rw [bs_size] at this
  exact this
theorem src_own {w : World} {base : Nat} {ad : Option Addr} {n c : Nat} {l : List UInt8} (h : OwnR w base 5 1 (.slice ad n c) n (bcells l)) : Src Tryd.prog 1 48 (.slice ad n c) n (bcells l) w := by
  rcases h.form with ⟨hv, h0⟩ | ⟨g, cap2, hv, _⟩
  · simp only [Value.slice.injEq] at hv
    obtain ⟨rfl, _, rfl⟩ := hv
    subst h0
    have e : bcells l = [] := List.length_eq_zero_iff.1 (by have := h.1; omega)
    rw [e]
    exact Src.ofNil _ Tryd.underlying48 _
  · simp only [Value.slice.injEq] at hv
    obtain ⟨rfl, _, rfl⟩ := hv
    exact Src.ofSlice _ Tryd.underlying48 _ _ _ _ h.1 (fun j u hu => h.cells (g := g) rfl j u hu) (bcells_one l)

section
variable {base : Nat} {w : World} {b : Nat} {k : List UInt8} {M : List Nat} {ab : Option Addr} {nb cb : Nat} {al : Option Addr} {nl cl : Nat} {ae : Option Addr} {ne ce : Nat} {s : S}
variable {ops : Array Oper} {rest : List Oper} {o : Oper} {a : Act} {K : Act → World → Prop} {Q : Exit → Act → World → Prop} {E : Prop}

theorem wp_buf (h : TS base w b k M ab nb cb al nl cl ae ne ce s) (sl x : Operand) (tx : TypeId)
    (ho : o.op = .call { callee := .builtin .append, args := #[sl, x], argTypes := #[48, tx] }) (hsl : a.eval sl = .slice ab nb cb)
    (xv : Value) (hx : a.eval x = xv) (m : Nat) (l : List UInt8) (hS : Src Tryd.prog 1 tx xv m (bcells l) w) (hlen : s.buf.length + l.length ≤ 100000000000)
    (next : ∀ ab' nb' cb' w', w'.cell? ⟨b, 42, none⟩ = some (.slice ab nb cb) → w'.frozen? ⟨b, 42, none⟩ = false → w'.cell? ⟨b, 45, none⟩ = some (.slice ae ne ce) →
      Hid (TS base (w'.setCell ⟨b, 42, none⟩ (.slice ab' nb' cb')) b k M ab' nb' cb' al nl cl ae ne ce ⟨s.buf ++ l, s.q, s.ls, s.echo⟩) → Hid (Below base w (w'.setCell ⟨b, 42, none⟩ (.slice ab' nb' cb'))) → K (a.put o.dst (.slice ab' nb' cb')) w') : o.wp Tryd.prog a w K Q := by
  obtain ⟨i0, hi, hz0, hz1, hz2⟩ := info_parts infoByte
  have hm : m = l.length := by have := hS.newsLen; rw [bcells_length] at this; omega
  have hnb := h.eb
  obtain ⟨ab', cb', w', hr, hA⟩ := run_append_1 (P := Tryd.prog) w 48 tx o.type base 5 i0 (.int .u8 0) 1 Tryd.underlying48 hi hz0 hz1 hz2 rfl ab nb cb (bcells s.buf) h.ob xv m (bcells l) hS (by unfold maxLen; omega) (by omega) h.base_le
  rw [← bcells_app] at hA
  have hbx : Box w' b 64 _ := h.box.kept (hA.grown.block b h.lt (fun e => h.bb e.symm))
  unfold Oper.wp execOp
  simp only [ho, resolve, invoke, builtin, Sem.run_bind, Sem.run_pure, Result.andThen_ok, List.map_toArray, List.map_cons, List.map_nil, hsl, hx, hr]
  exact next ab' (nb + m) cb' w' (hbx.cell (tcells_hi h.kl h.ml _ _ _ _ 0)) (hbx.frozen _) (hbx.cell (tcells_hi h.kl h.ml _ _ _ _ 3)) (h.setBuf hA) (below_set hA.grown h.base_le (fun g hg => (h.hb g hg).1) h.lo _ _)
theorem wpList_buf (hwd : Region.wanted o (yielded ops a.tmps) = true) (h : TS base w b k M ab nb cb al nl cl ae ne ce s) (sl x : Operand) (tx : TypeId)
    (ho : o.op = .call { callee := .builtin .append, args := #[sl, x], argTypes := #[48, tx] }) (hsl : a.eval sl = .slice ab nb cb)
    (xv : Value) (hx : a.eval x = xv) (m : Nat) (l : List UInt8) (hS : Src Tryd.prog 1 tx xv m (bcells l) w) (hlen : s.buf.length + l.length ≤ 100000000000)
    (next : ∀ ab' nb' cb' w', w'.cell? ⟨b, 42, none⟩ = some (.slice ab nb cb) → w'.frozen? ⟨b, 42, none⟩ = false → w'.cell? ⟨b, 45, none⟩ = some (.slice ae ne ce) →
      Hid (TS base (w'.setCell ⟨b, 42, none⟩ (.slice ab' nb' cb')) b k M ab' nb' cb' al nl cl ae ne ce ⟨s.buf ++ l, s.q, s.ls, s.echo⟩) → Hid (Below base w (w'.setCell ⟨b, 42, none⟩ (.slice ab' nb' cb'))) → wpList Tryd.prog ops Q rest (a.put o.dst (.slice ab' nb' cb')) w') : wpList Tryd.prog ops Q (o :: rest) a w := by
  refine wpList_step fun K hK => ?_
  rw [if_pos hwd]
  exact wp_buf h sl x tx ho hsl xv hx m l hS hlen fun ab' nb' cb' w' h1 h2 h3 h4 h5 => hK _ _ (next ab' nb' cb' w' h1 h2 h3 h4 h5)

theorem wp_echo (h : TS base w b k M ab nb cb al nl cl ae ne ce s) (sl x : Operand) (tx : TypeId)
    (ho : o.op = .call { callee := .builtin .append, args := #[sl, x], argTypes := #[48, tx] }) (hsl : a.eval sl = .slice ae ne ce)
    (xv : Value) (hx : a.eval x = xv) (m : Nat) (l : List UInt8) (hS : Src Tryd.prog 1 tx xv m (bcells l) w) (hlen : s.echo.length + l.length ≤ 100000000000)
    (next : ∀ ae' ne' ce' w', w'.cell? ⟨b, 45, none⟩ = some (.slice ae ne ce) → w'.frozen? ⟨b, 45, none⟩ = false → w'.cell? ⟨b, 42, none⟩ = some (.slice ab nb cb) →
      Hid (TS base (w'.setCell ⟨b, 45, none⟩ (.slice ae' ne' ce')) b k M ab nb cb al nl cl ae' ne' ce' ⟨s.buf, s.q, s.ls, s.echo ++ l⟩) → Hid (Below base w (w'.setCell ⟨b, 45, none⟩ (.slice ae' ne' ce'))) → K (a.put o.dst (.slice ae' ne' ce')) w') : o.wp Tryd.prog a w K Q := by
  obtain ⟨i0, hi, hz0, hz1, hz2⟩ := info_parts infoByte
  have hm : m = l.length := by have := hS.newsLen; rw [bcells_length] at this; omega
  have hnb := h.ee
  obtain ⟨ae', ce', w', hr, hA⟩ := run_append_1 (P := Tryd.prog) w 48 tx o.type base 5 i0 (.int .u8 0) 1 Tryd.underlying48 hi hz0 hz1 hz2 rfl ae ne ce (bcells s.echo) h.oe xv m (bcells l) hS (by unfold maxLen; omega) (by omega) h.base_le
  rw [← bcells_app] at hA
  have hbx : Box w' b 64 _ := h.box.kept (hA.grown.block b h.lt (fun e => h.be e.symm))
  unfold Oper.wp execOp
  simp only [ho, resolve, invoke, builtin, Sem.run_bind, Sem.run_pure, Result.andThen_ok, List.map_toArray, List.map_cons, List.map_nil, hsl, hx, hr]
  exact next ae' (ne + m) ce' w' (hbx.cell (tcells_hi h.kl h.ml _ _ _ _ 3)) (hbx.frozen _) (hbx.cell (tcells_hi h.kl h.ml _ _ _ _ 0)) (h.setEcho hA) (below_set hA.grown h.base_le (fun g hg => (h.he g hg).1) h.lo _ _)
theorem wpList_echo (hwd : Region.wanted o (yielded ops a.tmps) = true) (h : TS base w b k M ab nb cb al nl cl ae ne ce s) (sl x : Operand) (tx : TypeId)
    (ho : o.op = .call { callee := .builtin .append, args := #[sl, x], argTypes := #[48, tx] }) (hsl : a.eval sl = .slice ae ne ce)
    (xv : Value) (hx : a.eval x = xv) (m : Nat) (l : List UInt8) (hS : Src Tryd.prog 1 tx xv m (bcells l) w) (hlen : s.echo.length + l.length ≤ 100000000000)
    (next : ∀ ae' ne' ce' w', w'.cell? ⟨b, 45, none⟩ = some (.slice ae ne ce) → w'.frozen? ⟨b, 45, none⟩ = false → w'.cell? ⟨b, 42, none⟩ = some (.slice ab nb cb) →
      Hid (TS base (w'.setCell ⟨b, 45, none⟩ (.slice ae' ne' ce')) b k M ab nb cb al nl cl ae' ne' ce' ⟨s.buf, s.q, s.ls, s.echo ++ l⟩) → Hid (Below base w (w'.setCell ⟨b, 45, none⟩ (.slice ae' ne' ce'))) → wpList Tryd.prog ops Q rest (a.put o.dst (.slice ae' ne' ce')) w') : wpList Tryd.prog ops Q (o :: rest) a w := by
  refine wpList_step fun K hK => ?_
  rw [if_pos hwd]
  exact wp_echo h sl x tx ho hsl xv hx m l hS hlen fun ab' nb' cb' w' h1 h2 h3 h4 h5 => hK _ _ (next ab' nb' cb' w' h1 h2 h3 h4 h5)
theorem rstep_echo (hgd : o.guard = none) (h : TS base w b k M ab nb cb al nl cl ae ne ce s) (sl x : Operand) (tx : TypeId)
    (ho : o.op = .call { callee := .builtin .append, args := #[sl, x], argTypes := #[48, tx] }) (hsl : a.eval sl = .slice ae ne ce)
    (xv : Value) (hx : a.eval x = xv) (m : Nat) (l : List UInt8) (hS : Src Tryd.prog 1 tx xv m (bcells l) w) (hlen : s.echo.length + l.length ≤ 100000000000)
    (next : ∀ ae' ne' ce' w', w'.cell? ⟨b, 45, none⟩ = some (.slice ae ne ce) → w'.frozen? ⟨b, 45, none⟩ = false → w'.cell? ⟨b, 42, none⟩ = some (.slice ab nb cb) →
      Hid (TS base (w'.setCell ⟨b, 45, none⟩ (.slice ae' ne' ce')) b k M ab nb cb al nl cl ae' ne' ce' ⟨s.buf, s.q, s.ls, s.echo ++ l⟩) → Hid (Below base w (w'.setCell ⟨b, 45, none⟩ (.slice ae' ne' ce'))) → K (a.put o.dst (.slice ae' ne' ce')) w') :
    if Region.wanted o (yielded ops a.tmps) = true then Oper.wp Tryd.prog o a w K Q else E := by
  have hw : Region.wanted o (yielded ops a.tmps) = true := by simp [Region.wanted, hgd]
  rw [if_pos hw]
  exact wp_echo h sl x tx ho hsl xv hx m l hS hlen next

theorem rstep_lines (hgd : o.guard = none) (h : TS base w b k M ab nb cb al nl cl ae ne ce s) (sl x : Operand)
    (ho : o.op = .call { callee := .builtin .append, args := #[sl, x], argTypes := #[31, 31] }) (hsl : a.eval sl = .slice al nl cl)
    (xv : Value) (hx : a.eval x = xv) (y : List UInt8) (hS : Src Tryd.prog 1 31 xv 1 (scells [y]) w) (hlen : s.ls.length ≤ 100000000000)
    (next : ∀ al' nl' cl' w', w'.cell? ⟨b, 44, none⟩ = some (.slice al nl cl) → w'.frozen? ⟨b, 44, none⟩ = false → w'.cell? ⟨b, 42, none⟩ = some (.slice ab nb cb) → w'.frozen? ⟨b, 42, none⟩ = false →
      Hid (TS base (w'.setCell ⟨b, 44, none⟩ (.slice al' nl' cl')) b k M ab nb cb al' nl' cl' ae ne ce ⟨s.buf, s.q, s.ls ++ [y], s.echo⟩) → Hid (Below base w (w'.setCell ⟨b, 44, none⟩ (.slice al' nl' cl'))) → K (a.put o.dst (.slice al' nl' cl')) w') :
    if Region.wanted o (yielded ops a.tmps) = true then Oper.wp Tryd.prog o a w K Q else E := by
  have hw : Region.wanted o (yielded ops a.tmps) = true := by simp [Region.wanted, hgd]
  rw [if_pos hw]
  obtain ⟨i0, hi, hz0, hz1, hz2⟩ := info_parts infoString
  have hnl := h.el
  obtain ⟨al', cl', w', hr, hA⟩ := run_append_1 (P := Tryd.prog) w 31 31 o.type base 9 i0 (.string ⟨#[]⟩) 16 Tryd.underlying31 hi hz0 hz1 hz2 rfl al nl cl (scells s.ls) h.ol xv 1 (scells [y]) hS (by unfold maxLen; omega) (by omega) h.base_le
  rw [← scells_app] at hA
  have hbx : Box w' b 64 _ := h.box.kept (hA.grown.block b h.lt (fun e => h.bl e.symm))
  unfold Oper.wp execOp
  simp only [ho, resolve, invoke, builtin, Sem.run_bind, Sem.run_pure, Result.andThen_ok, List.map_toArray, List.map_cons, List.map_nil, hsl, hx, hr]
  exact next al' (nl + 1) cl' w' (hbx.cell (tcells_hi h.kl h.ml _ _ _ _ 2)) (hbx.frozen _) (hbx.cell (tcells_hi h.kl h.ml _ _ _ _ 0)) (hbx.frozen _) (h.setLines hA) (below_set hA.grown h.base_le (fun g hg => (h.hl g hg).1) h.lo _ _)
end

section
variable {P : Program} {ops : Array Oper} {rest : List Oper} {o : Oper} {a : Act} {w : World} {Q : Exit → Act → World → Prop}
/-- the front of a slice whose elements have a cell each -/
theorem wpList_upto (hwd : Region.wanted o (yielded ops a.tmps) = true) (t e : TypeId) (x y : Operand) (ho : o.op = .slice t x none (some y) none) (ht : P.underlying t = some (.slice e)) (hi : (P.info? e).map (·.size) = some 1)
    (ad : Option Addr) (n c m : Nat) (hx : a.eval x = .slice ad n c) (hy : a.eval y = .int .i64 (m : Int)) (hm : m ≤ c)
    (h : wpList P ops Q rest (a.put o.dst (.slice ad m c)) w) : wpList P ops Q (o :: rest) a w := by
  refine wpList_step fun K hK => ?_
  rw [if_pos hwd]
  obtain ⟨i, hi', hs⟩ := Option.map_eq_some_iff.1 hi
  have e0 : (if c = 0 then ad else ad.map (·.add 0)) = ad := by
    cases ad with
    | none => simp
    | some q => obtain ⟨b, o, p⟩ := q; cases p <;> simp [Addr.add]
  have hr : (Instr.sliceAt t (.slice ad n c) none (some (.int .i64 (m : Int))) none).run P w = .ok (.slice ad m c) w := by
    simp [Instr.sliceAt, Instr.slice, run_underlying ht, Instr.sliceBounds, Instr.sliceBound, asIntOf, sizeOf, typeInfo, hi', hm, e0]
  unfold Oper.wp execOp
  simp only [ho, hx, hy, Option.map_none, Option.map_some, hr, Sem.run_bind, Sem.run_pure, Result.andThen_ok]
  exact hK _ _ h
/-- its rest: as long as that is -/
theorem wpList_from (hwd : Region.wanted o (yielded ops a.tmps) = true) (t e : TypeId) (x y : Operand) (ho : o.op = .slice t x (some y) none none) (ht : P.underlying t = some (.slice e)) (hi : (P.info? e).map (·.size) = some 1)
    (ad : Option Addr) (n c m : Nat) (hx : a.eval x = .slice ad n c) (hy : a.eval y = .int .i64 (m : Int)) (hm : m ≤ n)
    (h : ∀ ad' k' c', Hid (k' = n - m) → wpList P ops Q rest (a.put o.dst (.slice ad' k' c')) w) : wpList P ops Q (o :: rest) a w := by
  refine wpList_step fun K hK => ?_
  rw [if_pos hwd]
  obtain ⟨i, hi', hs⟩ := Option.map_eq_some_iff.1 hi
  have hr : (Instr.sliceAt t (.slice ad n c) (some (.int .i64 (m : Int))) none none).run P w = .ok (.slice (if c = m then ad else ad.map (·.add (m * 1))) (n - m) (c - m)) w := by
    simp [Instr.sliceAt, Instr.slice, run_underlying ht, Instr.sliceBounds, Instr.sliceBound, asIntOf, sizeOf, typeInfo, hi', hs, hm]
  unfold Oper.wp execOp
  simp only [ho, hx, hy, Option.map_none, Option.map_some, hr, Sem.run_bind, Sem.run_pure, Result.andThen_ok]
  exact hK _ _ (h _ _ _ rfl)
end
theorem sizeU8 : (Tryd.prog.info? 5).map (·.size) = some 1 := by kernel_rfl

set_option maxHeartbeats 4000000 in
set_option maxRecDepth 100000 in
theorem isKey_any {base : Nat} {w : World} {b : Nat} {k : List UInt8} {M : List Nat} {s : S} (h : TX base w b k M s) (f : Nat) (hf : f < 19) (c : UInt8) :
    Calls Tryd.prog 38 #[.pointer (some ⟨b, 0, none⟩), .int .i64 (f : Int), .int .u8 (c.toNat : Int)] w fun e w' => e = .returned (.bool (isK k f c)) ∧ w' = w := by
  obtain ⟨ab, nb, cb, al, nl, cl, ae, ne, ce, h⟩ := h
  have e1 := h.lv f hf
  have e2 := h.ch f hf
  have q1 : (K.lv k f ≠ 0) ↔ ¬ ((K.lv k f).toNat : Int) = 0 := by
    rw [← K.eq0_iff]
  have q2 : (K.ch k f = c) ↔ ((K.ch k f).toNat : Int) = (c.toNat : Int) := by
    rw [← UInt8.toNat_inj]; omega
  have hR : isK k f c = decide (¬ ((K.lv k f).toNat : Int) = 0 ∧ ((K.ch k f).toNat : Int) = (c.toNat : Int)) := by
    unfold isK
    rw [decide_eq_decide, q1, q2]
  rw [hR]
  clear hR q1 q2 h
  generalize ((K.lv k f).toNat : Int) = x at *
  generalize ((K.ch k f).toNat : Int) = y at *
  generalize (c.toNat : Int) = z at *
  have n0 : (0 : Int) ≤ (f : Int) := by omega
  have n1 : (f : Int) < 19 := by omega
  by_cases h0 : x = 0
  · subst h0
    rw [decide_eq_false (fun e => e.1 rfl)]
    go_enter Tryd.func38, Tryd.ntmps38
    go_wp2
    go_ret
    exact ⟨rfl, rfl⟩
  · have hx0 : (x != 0) = true := bne_iff_ne.2 h0
    by_cases h1 : y = z
    · rw [decide_eq_true ⟨h0, h1⟩]
      subst h1
      go_enter Tryd.func38, Tryd.ntmps38
      go_wp2
      go_ret
      exact ⟨rfl, rfl⟩
    · rw [decide_eq_false (fun e => h1 e.2)]
      have hy0 : (y == z) = false := beq_false_of_ne h1
      go_enter Tryd.func38, Tryd.ntmps38
      go_wp2
      go_ret
      exact ⟨rfl, rfl⟩
end Go.Proofs.YtomgnnbcaficaaaDoor.L
