/-
  The reader of package iac in memory; contracts of its methods that write: each does to the cells what the plain function does; conditions: the rows lie in the call's own memory and hold at most so many bytes and tokens ('RS.fits').
-/
import Derived.Test.YtmcoliblkkploaaDoorProg
import Derived.Test.YtmcoliblkkploaaDoorMem
import Derived.Test.YtmcoliblkkploaaDoorPlain
import Derived.WalkKit
import Derived.WalkSpells
import Derived.WalkLawsBesides
import Derived.Deep.RegionLaw
import Derived.Deep.RegionHeld3
import Derived.Laws.BytesString
import Derived.Outline
namespace Go.Proofs.YtmcoliblkkploaaDoor
open Go.RowKit

theorem Tryd.info5 : (Tryd.prog.info? 5).map (fun i => (i.zero, i.size, i.bytes)) = some (some (.int .u8 0), 1, 1) := by kernel_rfl
theorem Tryd.infoTok : (Tryd.prog.info? 34).map (fun i => (i.zero, i.size, i.bytes)) = some (some (.agg #[.int .i64 0, .int .i64 0, .int .i64 0, .string ⟨#[]⟩]), 4, 40) := by kernel_rfl

def bcells (l : List UInt8) : List Value := l.map fun b => .int .u8 (b.toNat : Int)
def tcells (t : Tk) : List Value := [.int .i64 t.kind, .int .i64 t.cmd, .int .i64 t.opt, .string ⟨t.data.toArray⟩]
def tsCells (l : List Tk) : List Value := l.flatMap tcells

theorem bcells_one (b : UInt8) : ∀ u ∈ [Value.int .u8 (b.toNat : Int)], u.oneCell' = true := by intro u hu; simp at hu; subst hu; rfl
theorem tcells_one (t : Tk) : ∀ u ∈ tcells t, u.oneCell' = true := by intro u hu; simp [tcells] at hu; rcases hu with rfl | rfl | rfl | rfl <;> rfl
theorem bcells_snoc (l : List UInt8) (b : UInt8) : bcells l ++ [.int .u8 (b.toNat : Int)] = bcells (l ++ [b]) := by simp [bcells]
theorem tsCells_snoc (l : List Tk) (t : Tk) : tsCells l ++ tcells t = tsCells (l ++ [t]) := by simp [tsCells]

structure Rd (base : Nat) (w : World) (b : Nat) (r : RS) (vw vd vt : Value) : Prop where
  blk : w.heap[b]? = some (.cells #[.int .i64 r.mode, .int .i64 r.cmd, .int .i64 r.opt, .string ⟨#[]⟩, .bool r.over, vw, vd, vt] 60 (0, 0))
  lo : base ≤ b
  ow : OwnR w base 5 1 vw r.words.length (bcells r.words)
  od : OwnR w base 5 1 vd r.data.length (bcells r.data)
  ot : OwnR w base 34 4 vt r.toks.length (tsCells r.toks)
  ne : ∀ k, vw.ownBlock = some k → vd.ownBlock ≠ some k

theorem setCell_block {w : World} {b : Nat} {arr : Array Value} {T : TypeId} {fz : Nat × Nat} (h : w.heap[b]? = some (.cells arr T fz)) (j : Nat) (v : Value) : (w.setCell ⟨b, j, none⟩ v).heap[b]? = some (.cells (arr.setIfInBounds j v) T fz) := by
  rw [setCell_eq_setRow w b j arr T fz v h]
  exact setRow_heap w b arr _ T fz h

theorem ne_of {o : Option Nat} {k b : Nat} (hk : o = some k) (hb : o ≠ some b) : k ≠ b := fun e => hb (e ▸ hk)
theorem set_other (w : World) (b j : Nat) (v : Value) {k : Nat} (h : k ≠ b) : (w.setCell ⟨b, j, none⟩ v).heap[k]? = w.heap[k]? := Below.heap_setCell _ _ _ _ h

section
variable {base : Nat} {w : World} {b : Nat} {r : RS} {vw vd vt : Value}
theorem Rd.lt (h : Rd base w b r vw vd vt) : b < w.heap.size := (Array.getElem?_eq_some_iff.1 h.blk).1
theorem Rd.c0 (h : Rd base w b r vw vd vt) : w.cell? ⟨b, 0, none⟩ = some (.int .i64 r.mode) := by simp [World.cell?, h.blk]
theorem Rd.c1 (h : Rd base w b r vw vd vt) : w.cell? ⟨b, 1, none⟩ = some (.int .i64 r.cmd) := by simp [World.cell?, h.blk]
theorem Rd.c2 (h : Rd base w b r vw vd vt) : w.cell? ⟨b, 2, none⟩ = some (.int .i64 r.opt) := by simp [World.cell?, h.blk]
theorem Rd.c3 (h : Rd base w b r vw vd vt) : w.cell? ⟨b, 3, none⟩ = some (.string ⟨#[]⟩) := by simp [World.cell?, h.blk]
theorem Rd.c4 (h : Rd base w b r vw vd vt) : w.cell? ⟨b, 4, none⟩ = some (.bool r.over) := by simp [World.cell?, h.blk]
theorem Rd.c5 (h : Rd base w b r vw vd vt) : w.cell? ⟨b, 5, none⟩ = some vw := by simp [World.cell?, h.blk]
theorem Rd.c6 (h : Rd base w b r vw vd vt) : w.cell? ⟨b, 6, none⟩ = some vd := by simp [World.cell?, h.blk]
theorem Rd.c7 (h : Rd base w b r vw vd vt) : w.cell? ⟨b, 7, none⟩ = some vt := by simp [World.cell?, h.blk]
theorem Rd.fr (h : Rd base w b r vw vd vt) (j : Nat) : w.frozen? ⟨b, j, none⟩ = false := by simp [World.frozen?, h.blk]
/-- the rows lie in other blocks than the reader itself -/
theorem Rd.bw (h : Rd base w b r vw vd vt) : vw.ownBlock ≠ some b := fun e => by obtain ⟨c, f, hc⟩ := h.ow.typed b e; rw [h.blk] at hc; simp at hc
theorem Rd.bd (h : Rd base w b r vw vd vt) : vd.ownBlock ≠ some b := fun e => by obtain ⟨c, f, hc⟩ := h.od.typed b e; rw [h.blk] at hc; simp at hc
theorem Rd.bt (h : Rd base w b r vw vd vt) : vt.ownBlock ≠ some b := fun e => by obtain ⟨c, f, hc⟩ := h.ot.typed b e; rw [h.blk] at hc; simp at hc
theorem Rd.wt (h : Rd base w b r vw vd vt) (k : Nat) (hk : vw.ownBlock = some k) : vt.ownBlock ≠ some k := fun e => by obtain ⟨c, f, hc⟩ := h.ot.typed k e; obtain ⟨c', f', hc'⟩ := h.ow.typed k hk; rw [hc'] at hc; simp at hc
theorem Rd.dt (h : Rd base w b r vw vd vt) (k : Nat) (hk : vd.ownBlock = some k) : vt.ownBlock ≠ some k := fun e => by obtain ⟨c, f, hc⟩ := h.ot.typed k e; obtain ⟨c', f', hc'⟩ := h.od.typed k hk; rw [hc'] at hc; simp at hc
end

/-- the world w1 has w's rows, and the reader's block as it is said -/
theorem Rd.turn {base : Nat} {w w1 : World} {b : Nat} {r r1 : RS} {vw vd vt : Value} (h : Rd base w b r vw vd vt)
    (hb : w1.heap[b]? = some (.cells #[.int .i64 r1.mode, .int .i64 r1.cmd, .int .i64 r1.opt, .string ⟨#[]⟩, .bool r1.over, vw, vd, vt] 60 (0, 0)))
    (hk : ∀ k, k ≠ b → k < w.heap.size → w1.heap[k]? = w.heap[k]?) (e1 : r1.words = r.words) (e2 : r1.data = r.data) (e3 : r1.toks = r.toks) : Rd base w1 b r1 vw vd vt := by
  refine ⟨hb, h.lo, ?_, ?_, ?_, h.ne⟩
  · rw [e1]; exact h.ow.keptAt fun k hk' => hk k (fun e => h.bw (e ▸ hk')) (h.ow.lt k hk').2
  · rw [e2]; exact h.od.keptAt fun k hk' => hk k (fun e => h.bd (e ▸ hk')) (h.od.lt k hk').2
  · rw [e3]; exact h.ot.keptAt fun k hk' => hk k (fun e => h.bt (e ▸ hk')) (h.ot.lt k hk').2

theorem byte_lt (b : UInt8) : (b.toNat : Int) < 256 := by have := b.toNat_lt; omega

set_option maxHeartbeats 400000 in
theorem takeByte_255 (base : Nat) (w : World) (b : Nat) (r : RS) (vw vd vt : Value) (h : Rd base w b r vw vd vt) :
    Calls Tryd.prog 39 #[.pointer (some ⟨b, 0, none⟩), .int .u8 255] w fun e w' => e = .returned (.tuple #[]) ∧ Rd base w' b { r with mode := 1 } vw vd vt ∧ Below base w w' := by
  have c0 := h.c0
  have f0 := h.fr 0
  go_enter Tryd.func39, Tryd.ntmps39
  go_wp2
  refine bodyPost_ret (results_none rfl _ _ _) rfl ?_
  refine ⟨rfl, h.turn ?_ (fun k hk _ => set_other _ _ _ _ hk) rfl rfl rfl, (Below.refl _ _).setCell h.lo _⟩
  rw [setCell_block h.blk]
  rfl

/-- data gets a byte more: what behind the append, and the store of it, is so -/
theorem Rd.grewD {base : Nat} {w w1 : World} {b : Nat} {r : RS} {vw vd vt : Value} (h : Rd base w b r vw vd vt) (c : UInt8) (o : Obj) {g cap : Nat}
    (hown : OwnR w1 base 5 1 (.slice (some ⟨g, 0, none⟩) (r.data.length + 1) cap) (r.data.length + 1) (bcells r.data ++ [.int .u8 (c.toNat : Int)]))
    (hgr : (w.alloc o).grownBy w1 vd.ownBlock) (hat : vd.ownBlock = some g ∨ g = w.heap.size + 1) :
    Rd base (w1.setCell ⟨b, 6, none⟩ (.slice (some ⟨g, 0, none⟩) (r.data.length + 1) cap)) b { r with data := r.data ++ [c] } vw (.slice (some ⟨g, 0, none⟩) (r.data.length + 1) cap) vt ∧ Below base w (w1.setCell ⟨b, 6, none⟩ (.slice (some ⟨g, 0, none⟩) (r.data.length + 1) cap)) := by
  have hblt := h.lt
  have hold : ∀ k, k < w.heap.size → vd.ownBlock ≠ some k → w1.heap[k]? = w.heap[k]? := fun k hk hn => (hgr.block k (by simp; omega) (Ne.symm hn)).trans (Below.heap_alloc _ _ _ hk)
  have hb1 : w1.heap[b]? = some (.cells #[.int .i64 r.mode, .int .i64 r.cmd, .int .i64 r.opt, .string ⟨#[]⟩, .bool r.over, vw, vd, vt] 60 (0, 0)) := (hold b hblt h.bd).trans h.blk
  have hgb : g ≠ b := by rcases hat with e | e; · exact fun e' => h.bd (e' ▸ e)
                         · omega
  refine ⟨⟨?_, h.lo, ?_, ?_, ?_, ?_⟩, ?_⟩
  · rw [setCell_block hb1]; rfl
  · exact h.ow.keptAt fun k hk => (set_other _ _ _ _ (ne_of hk h.bw)).trans (hold k (h.ow.lt k hk).2 (h.ne k hk))
  · have := hown.keptAt (w' := w1.setCell ⟨b, 6, none⟩ (.slice (some ⟨g, 0, none⟩) (r.data.length + 1) cap)) fun k hk => set_other _ _ _ _ (by simp [Value.ownBlock] at hk; omega)
    simpa [bcells_snoc] using this
  · exact h.ot.keptAt fun k hk => (set_other _ _ _ _ (ne_of hk h.bt)).trans (hold k (h.ot.lt k hk).2 (fun e => h.dt k e hk))
  · intro k hk e
    simp [Value.ownBlock] at e
    subst e
    rcases hat with e | e
    · exact h.ne g hk e
    · have := (h.ow.lt g hk).2; omega
  · refine Below.setCell ?_ (by exact h.lo) _
    refine ((Below.refl base w).alloc (Nat.le_trans h.lo (Nat.le_of_lt hblt)) o).grown hgr (by simp; have := h.lo; omega) (fun k hk => (h.od.lt k hk).1)

set_option maxHeartbeats 400000 in
theorem takeByte_data (base : Nat) (w : World) (b : Nat) (r : RS) (vw vd vt : Value) (h : Rd base w b r vw vd vt) (c : UInt8) (hc : (c.toNat : Int) ≠ 255) (hf : r.fits) :
    Calls Tryd.prog 39 #[.pointer (some ⟨b, 0, none⟩), .int .u8 (c.toNat : Int)] w fun e w' => e = .returned (.tuple #[]) ∧ ∃ vd', Rd base w' b { r with data := r.data ++ [c] } vw vd' vt ∧ Below base w w' := by
  obtain ⟨i0, hi, hz0, hz1, hz2⟩ := info_parts Tryd.info5
  obtain ⟨hf1, hf2, hf3⟩ := hf
  have c6 := h.c6
  have f6 := h.fr 6
  have hblt := h.lt
  have hne : ((c.toNat : Int) == 255) = false := beq_eq_false_iff_ne.2 hc
  have hlo := h.lo
  go_enter Tryd.func39, Tryd.ntmps39
  go_wp2_with (at_builtin; refine wpList_append_R _ rfl (.tmp 14) (.tmp 16) 45 rfl base 5 i0 (.int .u8 0) 1 1 Tryd.underlying45 hi hz0 hz1 hz2 rfl (by decide) vd r.data.length (bcells r.data) rfl (h.od.keptAt fun k hk => Below.heap_alloc _ _ _ (h.od.lt k hk).2) ⟨w.heap.size, 0, none⟩ 1 1 [.int .u8 (c.toNat : Int)] rfl rfl ?c1 (bcells_one c) (by decide) ?c3 ?c4 ?c5 (w.heap.size + 1) (by simp) ?_)
  case c1 => exact fun j u hu => World.news_of_block (MapKept.heap_alloc w _).1 j u hu
  case c3 => unfold maxLen; omega
  case c4 => omega
  case c5 => simp; omega
  intro g cap w1 hown hgr hat hlt
  have k6 : w1.cell? ⟨b, 6, none⟩ = some vd := (hgr.cell_far ⟨b, 6, none⟩ (by simp; omega) (Ne.symm h.bd)).trans ((World.cell?_alloc_past _ _ _ hblt).trans c6)
  have e6 : w1.frozen? ⟨b, 6, none⟩ = false := (hgr.frozen_far ⟨b, 6, none⟩ (by simp; omega) (Ne.symm h.bd)).trans ((World.frozen?_alloc_past _ _ _ hblt).trans f6)
  have H := h.grewD c _ hown hgr hat
  go_wp2
  go_end0
  exact ⟨rfl, _, H⟩

/-- the same of the words -/
theorem Rd.grewW {base : Nat} {w w1 : World} {b : Nat} {r : RS} {vw vd vt : Value} (h : Rd base w b r vw vd vt) (c : UInt8) (o : Obj) {g cap : Nat}
    (hown : OwnR w1 base 5 1 (.slice (some ⟨g, 0, none⟩) (r.words.length + 1) cap) (r.words.length + 1) (bcells r.words ++ [.int .u8 (c.toNat : Int)]))
    (hgr : (w.alloc o).grownBy w1 vw.ownBlock) (hat : vw.ownBlock = some g ∨ g = w.heap.size + 1) :
    Rd base (w1.setCell ⟨b, 5, none⟩ (.slice (some ⟨g, 0, none⟩) (r.words.length + 1) cap)) b { r with words := r.words ++ [c] } (.slice (some ⟨g, 0, none⟩) (r.words.length + 1) cap) vd vt ∧ Below base w (w1.setCell ⟨b, 5, none⟩ (.slice (some ⟨g, 0, none⟩) (r.words.length + 1) cap)) := by
  have hblt := h.lt
  have hold : ∀ k, k < w.heap.size → vw.ownBlock ≠ some k → w1.heap[k]? = w.heap[k]? := fun k hk hn => (hgr.block k (by simp; omega) (Ne.symm hn)).trans (Below.heap_alloc _ _ _ hk)
  have hb1 : w1.heap[b]? = some (.cells #[.int .i64 r.mode, .int .i64 r.cmd, .int .i64 r.opt, .string ⟨#[]⟩, .bool r.over, vw, vd, vt] 60 (0, 0)) := (hold b hblt h.bw).trans h.blk
  have hgb : g ≠ b := by rcases hat with e | e; · exact fun e' => h.bw (e' ▸ e)
                         · omega
  refine ⟨⟨?_, h.lo, ?_, ?_, ?_, ?_⟩, ?_⟩
  · rw [setCell_block hb1]; rfl
  · have := hown.keptAt (w' := w1.setCell ⟨b, 5, none⟩ (.slice (some ⟨g, 0, none⟩) (r.words.length + 1) cap)) fun k hk => set_other _ _ _ _ (by simp [Value.ownBlock] at hk; omega)
    simpa [bcells_snoc] using this
  · exact h.od.keptAt fun k hk => (set_other _ _ _ _ (ne_of hk h.bd)).trans (hold k (h.od.lt k hk).2 (fun e => h.ne k e hk))
  · exact h.ot.keptAt fun k hk => (set_other _ _ _ _ (ne_of hk h.bt)).trans (hold k (h.ot.lt k hk).2 (fun e => h.wt k e hk))
  · intro k hk e
    simp [Value.ownBlock] at hk
    subst hk
    rcases hat with e' | e'
    · exact h.ne g e' e
    · have := (h.od.lt g e).2; omega
  · refine Below.setCell ?_ (by exact h.lo) _
    refine ((Below.refl base w).alloc (Nat.le_trans h.lo (Nat.le_of_lt hblt)) o).grown hgr (by simp; have := h.lo; omega) (fun k hk => (h.ow.lt k hk).1)

/-- a token more -/
theorem Rd.grewT {base : Nat} {w w0 w1 : World} {b : Nat} {r : RS} {vw vd vt : Value} (h : Rd base w b r vw vd vt) (t : Tk) {g cap : Nat}
    (hown : OwnR w1 base 34 4 (.slice (some ⟨g, 0, none⟩) (r.toks.length + 1) cap) (r.toks.length + 1) (tsCells r.toks ++ tcells t))
    (h0 : ∀ k, k < w.heap.size → w0.heap[k]? = w.heap[k]?) (hs0 : w.heap.size ≤ w0.heap.size) (hb0 : Below base w w0)
    (hgr : w0.grownBy w1 vt.ownBlock) (hat : vt.ownBlock = some g ∨ w.heap.size ≤ g) :
    Rd base (w1.setCell ⟨b, 7, none⟩ (.slice (some ⟨g, 0, none⟩) (r.toks.length + 1) cap)) b { r with toks := r.toks ++ [t] } vw vd (.slice (some ⟨g, 0, none⟩) (r.toks.length + 1) cap) ∧ Below base w (w1.setCell ⟨b, 7, none⟩ (.slice (some ⟨g, 0, none⟩) (r.toks.length + 1) cap)) := by
  have hblt := h.lt
  have hold : ∀ k, k < w.heap.size → vt.ownBlock ≠ some k → w1.heap[k]? = w.heap[k]? := fun k hk hn => (hgr.block k (by omega) (Ne.symm hn)).trans (h0 k hk)
  have hb1 : w1.heap[b]? = some (.cells #[.int .i64 r.mode, .int .i64 r.cmd, .int .i64 r.opt, .string ⟨#[]⟩, .bool r.over, vw, vd, vt] 60 (0, 0)) := (hold b hblt h.bt).trans h.blk
  have hgb : g ≠ b := by rcases hat with e | e; · exact fun e' => h.bt (e' ▸ e)
                         · omega
  refine ⟨⟨?_, h.lo, ?_, ?_, ?_, h.ne⟩, ?_⟩
  · rw [setCell_block hb1]; rfl
  · exact h.ow.keptAt fun k hk => (set_other _ _ _ _ (ne_of hk h.bw)).trans (hold k (h.ow.lt k hk).2 (h.wt k hk))
  · exact h.od.keptAt fun k hk => (set_other _ _ _ _ (ne_of hk h.bd)).trans (hold k (h.od.lt k hk).2 (h.dt k hk))
  · have := hown.keptAt (w' := w1.setCell ⟨b, 7, none⟩ (.slice (some ⟨g, 0, none⟩) (r.toks.length + 1) cap)) fun k hk => set_other _ _ _ _ (by simp [Value.ownBlock] at hk; omega)
    simpa [tsCells_snoc] using this
  · refine Below.setCell ?_ (by exact h.lo) _
    exact hb0.grown hgr (by have := h.lo; omega) (fun k hk => (h.ot.lt k hk).1)

/-- words, or data, cut to nothing -/
theorem Rd.cutD {base : Nat} {w : World} {b : Nat} {r : RS} {vw vt : Value} {g n cap : Nat} (h : Rd base w b r vw (.slice (some ⟨g, 0, none⟩) n cap) vt) :
    Rd base (w.setCell ⟨b, 6, none⟩ (.slice (some ⟨g, 0, none⟩) 0 cap)) b { r with data := [] } vw (.slice (some ⟨g, 0, none⟩) 0 cap) vt := by
  have e : n = r.data.length := by
    rcases h.od.form with ⟨h0, _⟩ | ⟨g', c', h0, _⟩
    · simp at h0
    · simp at h0; exact h0.2.1
  subst e
  refine ⟨by rw [setCell_block h.blk]; rfl, h.lo, ?_, ?_, ?_, h.ne⟩
  · exact h.ow.keptAt fun k hk => set_other _ _ _ _ (ne_of hk h.bw)
  · exact h.od.cut.keptAt fun k hk => set_other _ _ _ _ (ne_of hk h.bd)
  · exact h.ot.keptAt fun k hk => set_other _ _ _ _ (ne_of hk h.bt)
theorem Rd.cutW {base : Nat} {w : World} {b : Nat} {r : RS} {vd vt : Value} {g n cap : Nat} (h : Rd base w b r (.slice (some ⟨g, 0, none⟩) n cap) vd vt) :
    Rd base (w.setCell ⟨b, 5, none⟩ (.slice (some ⟨g, 0, none⟩) 0 cap)) b { r with words := [] } (.slice (some ⟨g, 0, none⟩) 0 cap) vd vt := by
  have e : n = r.words.length := by
    rcases h.ow.form with ⟨h0, _⟩ | ⟨g', c', h0, _⟩
    · simp at h0
    · simp at h0; exact h0.2.1
  subst e
  refine ⟨by rw [setCell_block h.blk]; rfl, h.lo, ?_, ?_, ?_, h.ne⟩
  · exact h.ow.cut.keptAt fun k hk => set_other _ _ _ _ (ne_of hk h.bw)
  · exact h.od.keptAt fun k hk => set_other _ _ _ _ (ne_of hk h.bd)
  · exact h.ot.keptAt fun k hk => set_other _ _ _ _ (ne_of hk h.bt)

def RdE (base : Nat) (w : World) (b : Nat) (r : RS) : Prop := ∃ vw vd vt, Rd base w b r vw vd vt

end Go.Proofs.YtmcoliblkkploaaDoor
