/-
  Laws, of no program: a new variable in a region that draws its order: its block is a letter; a store takes no cell away. No condition but those that each law names.
-/
import Derived.Test.YtfipmggdpigbkaaKHear
namespace Go.Proofs.Ytfipmggdpigbkaa.K
open Go.RowKit Go.Proofs.Ytfipmggdpigbkaa Go.Proofs.Ytfipmggdpigbkaa.W Go.Proofs.Ytfipmggdpigbkaa.Q

/-- nothing old has become other -/
def Ext (w w' : World) : Prop := Below w.heap.size w w'
theorem Ext.refl (w : World) : Ext w w := Below.refl _ w
theorem Ext.trans {a b c : World} (h : Ext a b) (h2 : Ext b c) : Ext a c := Below.trans h (Below.mono h2 (Below.size h))
theorem Ext.size {a b : World} (h : Ext a b) : a.heap.size ≤ b.heap.size := Below.size h
theorem HasBox.ext {w w' : World} {b : Nat} {t : TypeId} {n : Nat} (h : HasBox w b t n) (hb : Ext w w') : HasBox w' b t n := h.later hb

/-- a new variable -/
structure Fresh (w : World) (b : Nat) (w' : World) (t : TypeId) (n : Nat) : Prop where
  ext : Ext w w'
  ge : w.heap.size ≤ b
  has : HasBox w' b t n

section
variable {P : Program} {ops : Array Oper} {o : Oper} {a : Act} {w : World} {K : Act → World → Prop} {Q : Exit → Act → World → Prop} {E : Prop}
theorem step_alloc (d : Nat) (z : List Value) (ty : TypeId) (hz : ∀ w, (zeroValue ty).run P w = .ok (.agg z.toArray) w) (hgd : o.guard = none) (ho : o.op = .alloc ty) (hd : o.dst = some d)
    (h : ∀ b w', Fresh w b w' ty z.length → K (a.put (some d) (.pointer (some ⟨b, 0, none⟩))) w') : if Region.wanted o (yielded ops a.tmps) = true then Oper.wp P o a w K Q else E := by
  have hw : Region.wanted o (yielded ops a.tmps) = true := by simp [Region.wanted, hgd]
  rw [if_pos hw]
  unfold Oper.wp execOp
  simp only [ho, Instr.alloc, hz, newVar, newRow, Value.cells, Sem.run_bind, Sem.run_pure, Result.andThen_ok, run_newObj_alloc]
  have m := Made.alloc w ty z
  have h' := h _ _ ⟨m.below _ _ (Nat.le_refl _) (Below.refl _ w), Nat.le_refl _, z, m.box, rfl⟩
  rw [← hd] at h'
  exact h'
end

/-- a store takes no cell away -/
theorem Lies.putAt {w : World} {q : Value} {n : Nat} (h : Lies w q n) (p u : Value) : Lies (putAt w p u) q n := by
  unfold Q.putAt
  split
  · obtain ⟨b, o, e, hc⟩ := h
    exact ⟨b, o, e, fun j hj => ⟨World.isSome_setCells _ _ _ _ _ (hc j hj).1, by rw [World.frozen?_setCells]; exact (hc j hj).2⟩⟩
  · exact h

/- the same as rewriting rules: what the walk of a drawn region keeps -/
theorem ext_alloc {w0 w : World} (h : Ext w0 w) (o : Obj) : Ext w0 (w.alloc o) = True := eq_true (Below.alloc h (Ext.size h) o)
theorem ext_put {w0 w : World} {b : Nat} (h : Ext w0 w) (hb : w0.heap.size ≤ b) (u : Value) : Ext w0 (putAt w (.pointer (some ⟨b, 0, none⟩)) u) = True := by
  refine eq_true ?_
  cases u <;> first | exact h | exact setCells_below _ _ _ _ _ _ h hb
theorem lies_new (w : World) (xs : Array Value) (t : TypeId) (n : Nat) (hn : xs.size = n) : Lies (w.alloc (.cells xs t)) (.pointer (some ⟨w.heap.size, 0, none⟩)) n = True := by
  have h := Box.new w t xs.toList
  rw [Array.toArray_toList] at h
  exact eq_true (h.lies0 (by simpa using hn))
theorem lies_alloc {w : World} {q : Value} {n : Nat} (h : Lies w q n) (o : Obj) : Lies (w.alloc o) q n = True := by
  obtain ⟨b, o', e, hc⟩ := h
  have hx : ∀ j, j < n → b < w.heap.size := fun j hj => by
    have := (hc j hj).1
    unfold World.cell? at this
    cases hh : w.heap[b]? with
    | none => simp [hh] at this
    | some x => exact (Array.getElem?_eq_some_iff.1 hh).1
  have hB : Below w.heap.size w (w.alloc o) := (Below.refl _ _).alloc (Nat.le_refl _) o
  exact eq_true ⟨b, o', e, fun j hj => by rw [hB.cell (p := ⟨b, o' + j, none⟩) (hx j hj), hB.frozen (p := ⟨b, o' + j, none⟩) (hx j hj)]; exact hc j hj⟩
theorem lies_put {w : World} {q : Value} {n : Nat} (h : Lies w q n) (p u : Value) : Lies (putAt w p u) q n = True := eq_true (Go.Proofs.Ytfipmggdpigbkaa.K.Lies.putAt h p u)
theorem lies_ext {w w' : World} {q : Value} {n : Nat} (h : Lies w q n) (hb : Ext w w') : Lies w' q n := by
  obtain ⟨b, o', e, hc⟩ := h
  have hx : ∀ j, j < n → b < w.heap.size := fun j hj => by
    have := (hc j hj).1
    unfold World.cell? at this
    cases hh : w.heap[b]? with
    | none => simp [hh] at this
    | some x => exact (Array.getElem?_eq_some_iff.1 hh).1
  exact ⟨b, o', e, fun j hj => by rw [Below.cell hb (p := ⟨b, o' + j, none⟩) (hx j hj), Below.frozen hb (p := ⟨b, o' + j, none⟩) (hx j hj)]; exact hc j hj⟩
theorem has_new (w : World) (xs : Array Value) (t : TypeId) (n : Nat) (hn : xs.size = n) : HasBox (w.alloc (.cells xs t)) w.heap.size t n = True := by
  have h := Box.new w t xs.toList
  rw [Array.toArray_toList] at h
  exact eq_true ⟨_, h, by simpa using hn⟩
theorem has_alloc {w : World} {b n : Nat} {t : TypeId} (h : HasBox w b t n) (o : Obj) : HasBox (w.alloc o) b t n = True :=
  eq_true (h.later ((Below.refl _ _).alloc (Nat.le_refl _) o))

/- a three of bytes that has just been laid, through allocs, stores and calls -/
theorem size_drew (w : World) : w.drew.heap.size = w.heap.size := rfl
def T0 : Obj := .cells #[.int .u8 0, .int .u8 0, .int .u8 0] 41
theorem new1 (w : World) : Lies (w.alloc (.cells #[.int .u8 0, .int .u8 0, .int .u8 0] 41)) (.pointer (some ⟨w.heap.size, 0, none⟩)) 3 := of_eq_true (lies_new w _ _ _ rfl)
theorem new2 (w : World) (o : Obj) : Lies ((w.alloc o).alloc (.cells #[.int .u8 0, .int .u8 0, .int .u8 0] 41)) (.pointer (some ⟨w.heap.size + 1, 0, none⟩)) 3 := by
  have h := new1 (w.alloc o)
  rwa [World.size_alloc] at h
theorem old2 (w : World) (o : Obj) : Lies ((w.alloc (.cells #[.int .u8 0, .int .u8 0, .int .u8 0] 41)).alloc o) (.pointer (some ⟨w.heap.size, 0, none⟩)) 3 := of_eq_true (lies_alloc (new1 w) o)
theorem new1d (w : World) : Lies (w.alloc (.cells #[.int .u8 0, .int .u8 0, .int .u8 0] 41)).drew (.pointer (some ⟨w.heap.size, 0, none⟩)) 3 := new1 w
theorem new2d (w : World) (o : Obj) : Lies ((w.alloc o).alloc (.cells #[.int .u8 0, .int .u8 0, .int .u8 0] 41)).drew (.pointer (some ⟨w.heap.size + 1, 0, none⟩)) 3 := new2 w o
theorem old2d (w : World) (o : Obj) : Lies ((w.alloc (.cells #[.int .u8 0, .int .u8 0, .int .u8 0] 41)).alloc o).drew (.pointer (some ⟨w.heap.size, 0, none⟩)) 3 := old2 w o
theorem put_new1 (w : World) (p u : Value) : Lies (putAt (w.alloc (.cells #[.int .u8 0, .int .u8 0, .int .u8 0] 41)) p u) (.pointer (some ⟨w.heap.size, 0, none⟩)) 3 := Go.Proofs.Ytfipmggdpigbkaa.K.Lies.putAt (new1 w) p u
theorem put_new2 (w : World) (o : Obj) (p u : Value) : Lies (putAt ((w.alloc o).alloc (.cells #[.int .u8 0, .int .u8 0, .int .u8 0] 41)) p u) (.pointer (some ⟨w.heap.size + 1, 0, none⟩)) 3 := Go.Proofs.Ytfipmggdpigbkaa.K.Lies.putAt (new2 w o) p u
theorem put_old2 (w : World) (o : Obj) (p u : Value) : Lies (putAt ((w.alloc (.cells #[.int .u8 0, .int .u8 0, .int .u8 0] 41)).alloc o) p u) (.pointer (some ⟨w.heap.size, 0, none⟩)) 3 := Go.Proofs.Ytfipmggdpigbkaa.K.Lies.putAt (old2 w o) p u
theorem put_keep {w : World} {q : Value} {n : Nat} (h : Lies w q n) (p u : Value) : Lies (putAt w p u) q n := Go.Proofs.Ytfipmggdpigbkaa.K.Lies.putAt h p u
theorem alloc_keep {w : World} {q : Value} {n : Nat} (h : Lies w q n) (o : Obj) : Lies (w.alloc o) q n := of_eq_true (lies_alloc h o)
theorem put_alloc_keep {w : World} {q : Value} {n : Nat} (h : Lies w q n) (o : Obj) (p u : Value) : Lies (putAt (w.alloc o) p u) q n := put_keep (alloc_keep h o) p u

theorem hnew1 (w : World) : HasBox (w.alloc (.cells #[.int .u8 0, .int .u8 0, .int .u8 0] 41)) w.heap.size 41 3 := of_eq_true (has_new w _ _ _ rfl)
theorem hnew2 (w : World) (o : Obj) : HasBox ((w.alloc o).alloc (.cells #[.int .u8 0, .int .u8 0, .int .u8 0] 41)) (w.heap.size + 1) 41 3 := by
  have h := hnew1 (w.alloc o)
  rwa [World.size_alloc] at h
theorem hold2 (w : World) (o : Obj) : HasBox ((w.alloc (.cells #[.int .u8 0, .int .u8 0, .int .u8 0] 41)).alloc o) w.heap.size 41 3 := of_eq_true (has_alloc (hnew1 w) o)
theorem hnew1d (w : World) : HasBox (w.alloc (.cells #[.int .u8 0, .int .u8 0, .int .u8 0] 41)).drew w.heap.size 41 3 := hnew1 w
theorem hnew2d (w : World) (o : Obj) : HasBox ((w.alloc o).alloc (.cells #[.int .u8 0, .int .u8 0, .int .u8 0] 41)).drew (w.heap.size + 1) 41 3 := hnew2 w o
theorem hold2d (w : World) (o : Obj) : HasBox ((w.alloc (.cells #[.int .u8 0, .int .u8 0, .int .u8 0] 41)).alloc o).drew w.heap.size 41 3 := hold2 w o
theorem has_keep {w : World} {b n : Nat} {t : TypeId} (h : HasBox w b t n) (o : Obj) : HasBox (w.alloc o) b t n := of_eq_true (has_alloc h o)
theorem two_puts {w : World} {b d : Nat} (hb : HasBox w b 41 3) (hd : HasBox w d 41 3) (hne : b ≠ d) (f g c s0 s1 s2 : UInt8) :
    Box (putAt (putAt w (.pointer (some ⟨b, 0, none⟩)) (T3 f g c)) (.pointer (some ⟨d, 0, none⟩)) (T3 s0 s1 s2)) b 41 (tc f g c) ∧ Box (putAt (putAt w (.pointer (some ⟨b, 0, none⟩)) (T3 f g c)) (.pointer (some ⟨d, 0, none⟩)) (T3 s0 s1 s2)) d 41 (tc s0 s1 s2) := by
  have s6 := hb.put (tc f g c) rfl
  have s7 := (hd.other (s6.other _ hne.symm)).put (tc s0 s1 s2) rfl
  exact ⟨s7.keep s6.box hne, s7.box⟩

/-- two blocks stay of their sizes, a third as it is -/
def SD (w0 : World) (b : Nat) (tb : TypeId) (nb : Nat) (c : Nat) (tc : TypeId) (nc : Nat) (d : Nat) (td : TypeId) (ds : List Value) (w' : World) : Prop := SG w0 b tb nb c tc nc w' ∧ Box w' d td ds
theorem SD.put {w0 w' : World} {b c d e nb nc : Nat} {tb tc td : TypeId} {ds : List Value} (h : SD w0 b tb nb c tc nc d td ds w') (hlt : b < c) (hb : d ≠ b) (hc : d ≠ c) (cs : List Value) (he : (e = b ∧ cs.length = nb) ∨ (e = c ∧ cs.length = nc)) : SD w0 b tb nb c tc nc d td ds (putAt w' (.pointer (some ⟨e, 0, none⟩)) (.agg cs.toArray)) := by
  refine ⟨h.1.put hlt cs he, ?_⟩
  rcases he with ⟨rfl, hn⟩ | ⟨rfl, hn⟩
  · exact (h.1.2.1.put cs hn).keep h.2 hb
  · exact (h.1.2.2.put cs hn).keep h.2 hc
end Go.Proofs.Ytfipmggdpigbkaa.K
