/-
  Contract of iac.joinRow: one token of a row's bytes, with the fields of the first that has any (of the last, if none has); conditions: at most 100000000 tokens, with at most 100000000 bytes together.
-/
import Derived.Test.YtmcoliblkkploaaDoorMerge
namespace Go.Proofs.YtmcoliblkkploaaDoor
open Go.RowKit

def joinStep (s : Tk × List UInt8) (t : Tk) : Tk × List UInt8 := (if s.2 = [] then t else s.1, s.2 ++ t.data)
def zeroT : Tk := ⟨0, 0, 0, []⟩
def joinTo (l : List Tk) : Tk × List UInt8 := l.foldl joinStep (zeroT, [])
def joinRow (l : List Tk) : Tk := { (joinTo l).1 with data := (joinTo l).2 }
def dataSum (l : List Tk) : Nat := (l.map fun t => t.data.length).sum

theorem joinTo_len (l : List Tk) : (joinTo l).2.length = dataSum l := by
  have gen : ∀ (l : List Tk) (s : Tk × List UInt8), (l.foldl joinStep s).2.length = s.2.length + dataSum l := by
    intro l
    induction l with
    | nil => intro s; simp [dataSum]
    | cons t l ih => intro s; rw [List.foldl_cons, ih]; simp [joinStep, dataSum]; omega
  have := gen l (zeroT, [])
  simpa [joinTo] using this
theorem dataSum_append (l m : List Tk) : dataSum (l ++ m) = dataSum l + dataSum m := by simp [dataSum]
theorem dataSum_take (l : List Tk) (n : Nat) : dataSum (l.take n) ≤ dataSum l := by
  have h := dataSum_append (l.take n) (l.drop n)
  rw [List.take_append_drop] at h
  omega
theorem dataSum_drop (l : List Tk) (n : Nat) : dataSum (l.drop n) ≤ dataSum l := by
  have h := dataSum_append (l.take n) (l.drop n)
  rw [List.take_append_drop] at h
  omega
theorem joinTo_snoc (l : List Tk) (k : Nat) (hk : k < l.length) : joinTo (l.take (k + 1)) = joinStep (joinTo (l.take k)) l[k] := by
  unfold joinTo
  rw [List.take_succ_eq_append_getElem hk, List.foldl_append]
  rfl

/-- what holds of memory while the row is read: the answer's block, the token's block, the bytes so far -/
structure Jn (w0 w : World) (v : Value) (one : Tk) (all : List UInt8) : Prop where
  res : w.heap[w0.heap.size]? = some (.cells #[.int .i64 0, .int .i64 0, .int .i64 0, .string ⟨#[]⟩] 34 (0, 0))
  one : w.heap[w0.heap.size + 1]? = some (.cells #[.int .i64 one.kind, .int .i64 one.cmd, .int .i64 one.opt, .string ⟨one.data.toArray⟩] 34 (0, 0))
  own : w.ownsRow (w0.heap.size + 2) 5 1 v all.length (bcells all)
  bel : Below w0.heap.size w0 w
  two : w0.heap.size + 2 ≤ w.heap.size

theorem bsize (l : List UInt8) : (⟨l.toArray⟩ : ByteArray).size = l.length := by simp [ByteArray.size]
theorem blk4 {w : World} {b : Nat} {a0 a1 a2 a3 : Value} {T : TypeId} (h : w.heap[b]? = some (.cells #[a0, a1, a2, a3] T (0, 0))) :
    w.cell? ⟨b, 0, none⟩ = some a0 ∧ w.cell? ⟨b, 1, none⟩ = some a1 ∧ w.cell? ⟨b, 2, none⟩ = some a2 ∧ w.cell? ⟨b, 3, none⟩ = some a3 ∧ ∀ j, w.frozen? ⟨b, j, none⟩ = false := by
  simp [World.cell?, World.frozen?, h]

/-- the append, and ahead of it the token's own block, and maybe the first fields -/
theorem Jn.step {w0 w w1 : World} {v v1 : Value} {one : Tk} {all : List UInt8} (h : Jn w0 w v one all) (t : Tk)
    (hown : w1.ownsRow (w0.heap.size + 2) 5 1 v1 (all.length + t.data.length) (bcells all ++ bcells t.data)) {o : Obj}
    (hgr : (w.alloc o).grownBy w1 v.ownBlock) : Jn w0 w1 v1 one (all ++ t.data) := by
  have hb : ∀ k, v.ownBlock = some k → w0.heap.size + 2 ≤ k := fun k hk => (h.own.lt k hk).1
  have h2 := h.two
  refine ⟨?_, ?_, ?_, ?_, ?_⟩
  · rw [hgr.block _ (by simp; omega) (fun e => by have := hb _ e.symm; omega), Below.heap_alloc _ _ _ (by omega)]; exact h.res
  · rw [hgr.block _ (by simp; omega) (fun e => by have := hb _ e.symm; omega), Below.heap_alloc _ _ _ (by omega)]; exact h.one
  · simpa [bcells] using hown
  · exact (h.bel.alloc (by omega) o).grown hgr (by simp; omega) (fun k hk => by have := hb k hk; omega)
  · have := hgr.size; simp at this; omega
theorem Jn.first {w0 w : World} {v : Value} {one : Tk} {all : List UInt8} (h : Jn w0 w v one all) (t : Tk) :
    Jn w0 ((((w.setCell ⟨w0.heap.size + 1, 0, none⟩ (.int .i64 t.kind)).setCell ⟨w0.heap.size + 1, 1, none⟩ (.int .i64 t.cmd)).setCell ⟨w0.heap.size + 1, 2, none⟩ (.int .i64 t.opt)).setCell ⟨w0.heap.size + 1, 3, none⟩ (.string ⟨t.data.toArray⟩)) v t all := by
  have h2 := h.two
  have ho : ∀ k, k ≠ w0.heap.size + 1 → ((((w.setCell ⟨w0.heap.size + 1, 0, none⟩ (.int .i64 t.kind)).setCell ⟨w0.heap.size + 1, 1, none⟩ (.int .i64 t.cmd)).setCell ⟨w0.heap.size + 1, 2, none⟩ (.int .i64 t.opt)).setCell ⟨w0.heap.size + 1, 3, none⟩ (.string ⟨t.data.toArray⟩)).heap[k]? = w.heap[k]? := fun k hk => by
    rw [set_other _ _ _ _ hk, set_other _ _ _ _ hk, set_other _ _ _ _ hk, set_other _ _ _ _ hk]
  refine ⟨(ho _ (by omega)).trans h.res, ?_, ?_, ?_, ?_⟩
  · rw [setCell_block (setCell_block (setCell_block (setCell_block h.one _ _) _ _) _ _)]; rfl
  · refine ⟨h.own.1, ?_⟩
    rcases h.own.2 with hn | ⟨g, cap, cur, hv, hg, hh, rest⟩
    · exact .inl hn
    · exact .inr ⟨g, cap, cur, hv, hg, (ho g (by omega)).trans hh, rest⟩
  · exact (((h.bel.setCell (by simp) _).setCell (by simp) _).setCell (by simp) _).setCell (by simp) _
  · simpa [World.setCell] using h2

set_option maxHeartbeats 4000000 in
set_option maxRecDepth 100000 in
theorem joinRow_any (w : World) (b off cap : Nat) (l : List Tk) (h : Tread w b off l) (hb : b < w.heap.size) (hn : l.length ≤ 100000000) (hd : dataSum l ≤ 100000000) :
    Calls Tryd.prog 37 #[.slice (some ⟨b, off, none⟩) l.length cap] w fun e w' => e = .returned (joinRow l).val ∧ Below w.heap.size w w' := by
  obtain ⟨i0, hi, hz0, hz1, hz2⟩ := info_parts Tryd.info5
  have HT := Hid.mk' h
  have HS := Hid.mk' (joinTo_snoc l)
  have HD : Hid (∀ k, (joinTo (l.take k)).2.length ≤ 100000000) := fun k => by rw [joinTo_len]; exact Nat.le_trans (dataSum_take l k) hd
  have HD2 : Hid (∀ k (hk : k < l.length), (joinTo (l.take k)).2.length + l[k].data.length ≤ 100000000) := fun k hk => by
    have e : (joinTo (l.take (k + 1))).2.length = (joinTo (l.take k)).2.length + l[k].data.length := by rw [joinTo_snoc l k hk]; simp [joinStep]
    rw [← e, joinTo_len]
    exact Nat.le_trans (dataSum_take l _) hd
  have HJ : Hid (joinRow l = { (joinTo (l.take l.length)).1 with data := (joinTo (l.take l.length)).2 }) := by rw [List.take_length]; rfl
  clear h hd
  go_enter Tryd.func37, Tryd.ntmps37
  go_wp2
  go_loopw [4, 9] (fun v i wr => ∃ k : Nat, k ≤ l.length ∧ i = .int .i64 k ∧ Jn w wr v (joinTo (l.take k)).1 (joinTo (l.take k)).2) (fun _ i _ => l.length - (intOf i).toNat)
  case atStart =>
    refine ⟨0, Nat.zero_le _, rfl, ?_⟩
    refine ⟨?_, ?_, World.ownsRow_nil _ _ _ _, ((Below.refl _ _).alloc (Nat.le_refl _) _).alloc (by simp) _, by simp⟩
    · rw [Below.heap_alloc _ _ _ (by simp)]; exact (MapKept.heap_alloc w _).1
    · have := (MapKept.heap_alloc (w.alloc (.cells #[.int .i64 0, .int .i64 0, .int .i64 0, .string ⟨#[]⟩] 34)) (.cells #[.int .i64 0, .int .i64 0, .int .i64 0, .string ⟨#[]⟩] 34)).1
      simp only [World.size_alloc] at this
      exact this
  case round =>
    obtain ⟨k, hk, rfl, hJ⟩ := hrel
    by_cases hlt : k < l.length
    · obtain ⟨t0, t1, t2, t3⟩ := (HT.out.below hJ.bel hb) k hlt
      obtain ⟨o0, o1, o2, o3, of⟩ := blk4 hJ.one
      have hSn := HS.out k hlt
      have hD2 := HD2.out k hlt
      have htwo := hJ.two
      have hwr : b < wr.heap.size := by omega
      have hw1 : w.heap.size + 1 < wr.heap.size := by omega
      have hw0 : w.heap.size < wr.heap.size := by omega
      generalize l[k] = tk at *
      generalize hjk : joinTo (l.take k) = jk at *
      clear hjk
      obtain ⟨one, all⟩ := jk
      simp only at hJ hD2 o0 o1 o2 o3
      have HSn := Hid.mk' hSn
      clear hSn
      obtain ⟨a5, c5, rfl⟩ : ∃ a c, u4 = Value.slice a all.length c := by
        rcases (OwnR.of hJ.own).form with ⟨rfl, e⟩ | ⟨g, cap, rfl, _⟩
        · exact ⟨none, 0, by rw [e]⟩
        · exact ⟨_, _, rfl⟩
      obtain ⟨kd, cm, op, dt⟩ := tk
      simp only at t0 t1 t2 t3 hD2
      by_cases he : all = []
      · have hlb : ((all.length : Int) == 0) = true := by rw [he]; rfl
        have HE := Hid.mk' he
        clear he
        have HJF := Hid.mk' (hJ.first ⟨kd, cm, op, dt⟩)
        have HJJ := Hid.mk' hJ
        clear hJ
        go_wp2_with (at_builtin; refine Lib.wpList_append_own_string _ rfl (.tmp 17) (.tmp 19) 45 9 rfl (w.heap.size + 2) 5 i0 Tryd.underlying45 Tryd.underlying9 hi hz0 hz1 hz2 (.slice a5 all.length c5) all.length (bcells all) rfl (HJF.out.own.alloc _) ⟨dt.toArray⟩ rfl ?c3 ?c4 ?c5 ?_)
        case c3 => have hq := bsize dt; unfold maxLen; omega
        case c4 => have hq := bsize dt; omega
        case c5 => first | omega | (simp; omega)
        intro v1 w1 hown hgr hnil
        have hJ1 := Hid.mk' (HJF.out.step ⟨kd, cm, op, dt⟩ (by simpa [bcells, Lib.strCells, ByteArray.size] using hown) hgr)
        clear hown hgr hnil
        go_wp2
        go_roundw
        case rel => exact ⟨k + 1, by omega, by go_num, by rw [HSn.out, joinStep, if_pos HE.out]; exact hJ1.out⟩
        case measure => simp [intOf]; omega
      · have hlb : ((all.length : Int) == 0) = false := beq_eq_false_iff_ne.2 (by have : all.length ≠ 0 := fun e => he (List.length_eq_zero_iff.1 e); omega)
        have HE := Hid.mk' he
        clear he
        have HJJ := Hid.mk' hJ
        clear hJ
        go_wp2_with (at_builtin; refine Lib.wpList_append_own_string _ rfl (.tmp 17) (.tmp 19) 45 9 rfl (w.heap.size + 2) 5 i0 Tryd.underlying45 Tryd.underlying9 hi hz0 hz1 hz2 (.slice a5 all.length c5) all.length (bcells all) rfl (HJJ.out.own.alloc _) ⟨dt.toArray⟩ rfl ?c3 ?c4 ?c5 ?_)
        case c3 => have hq := bsize dt; unfold maxLen; omega
        case c4 => have hq := bsize dt; omega
        case c5 => first | omega | (simp; omega)
        intro v1 w1 hown hgr hnil
        have hJ1 := Hid.mk' (HJJ.out.step ⟨kd, cm, op, dt⟩ (by simpa [bcells, Lib.strCells, ByteArray.size] using hown) hgr)
        clear hown hgr hnil
        go_wp2
        go_roundw
        case rel => exact ⟨k + 1, by omega, by go_num, by rw [HSn.out, joinStep, if_neg HE.out]; exact hJ1.out⟩
        case measure => simp [intOf]; omega
    · obtain rfl : k = l.length := by omega
      clear hk hlt
      obtain ⟨o0, o1, o2, o3, of⟩ := blk4 hJ.one
      obtain ⟨r0, r1, r2, r3, rf⟩ := blk4 hJ.res
      have htwo := hJ.two
      have hw1 : w.heap.size + 1 < wr.heap.size := by omega
      have hw0 : w.heap.size < wr.heap.size := by omega
      generalize joinTo (l.take l.length) = jk at *
      obtain ⟨one, all⟩ := jk
      simp only at hJ o0 o1 o2 o3
      have hst : (convert 45 9 u4).run Tryd.prog wr = .ok (.string ⟨all.toArray⟩) wr := run_str (OwnR.of hJ.own) 0
      have HB := Hid.mk' hJ.bel
      clear hJ
      go_wp2
      have HQ := HJ.out
      refine bodyPost_ret (v := (joinRow l).val) (by rw [HQ]; simp [results, Tryd.results37, go_sem, Tk.val, r0, r1, r2, r3]) rfl ⟨rfl, ?_⟩
      exact ((((HB.out.setCell (by simp) _).setCell (by simp) _).setCell (by simp) _).setCell (by simp) _).setCell (by simp) _
end Go.Proofs.YtmcoliblkkploaaDoor
