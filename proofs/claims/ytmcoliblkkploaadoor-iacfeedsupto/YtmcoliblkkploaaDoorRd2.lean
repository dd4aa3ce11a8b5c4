/-
  Contracts of the reader's methods endData, tell and putWord, over the reader in memory; conditions: 'RS.fits'.
-/
import Derived.Test.YtmcoliblkkploaaDoorRd
namespace Go.Proofs.YtmcoliblkkploaaDoor
open Go.RowKit

theorem Hid.mk' {p : Prop} (h : p) : Hid p := h
theorem fold_push (l : List UInt8) : ∀ s : ByteArray, ((l.map fun b => ((b.toNat : Nat) : Int)).foldl (fun r n => r.push (UInt8.ofNat n.toNat)) s) = ⟨(s.data.toList ++ l).toArray⟩ := by
  induction l with
  | nil => intro s; simp
  | cons a l ih =>
    intro s
    rw [List.map_cons, List.foldl_cons, ih]
    congr 1
    simp [ByteArray.push]

theorem run_str {w : World} {base : Nat} {v : Value} {l : List UInt8} (h : OwnR w base 5 1 v l.length (bcells l)) (q : Nat) :
    (convert 45 9 v).run Tryd.prog (w.drewN q) = .ok (.string ⟨l.toArray⟩) (w.drewN q) := by
  rcases h.form with ⟨rfl, h0⟩ | ⟨g, cap, rfl, _⟩
  · have : l = [] := List.length_eq_zero_iff.1 h0
    subst this
    rw [run_convert_bytes_string _ _ _ _ _ _ _ Tryd.underlying45 Tryd.underlying5 Tryd.underlying9]
    simp [Conv.bytesToString, Sem.run_pure]
    rfl
  · rw [run_convert_bytes_string _ _ _ _ _ _ _ Tryd.underlying45 Tryd.underlying5 Tryd.underlying9]
    have hl := run_loadCells_list (P := Tryd.prog) (w.drewN q) ⟨g, 0, none⟩ (bcells l) (fun j u hu => h.cells (g := g) rfl j u hu)
    have e : (bcells l).length = l.length := by simp [bcells]
    rw [e] at hl
    have e2 : bcells l = (l.map fun b => ((b.toNat : Nat) : Int)).map (Value.int .u8) := by simp [bcells]
    rw [e2] at hl
    rw [run_bytesToString _ _ _ _ _ hl, fold_push]
    rfl

set_option maxHeartbeats 400000 in
theorem endData_none (base : Nat) (w : World) (b : Nat) (r : RS) (vw vd vt : Value) (h : Rd base w b r vw vd vt) (hd : r.data = []) :
    Calls Tryd.prog 26 #[.pointer (some ⟨b, 0, none⟩)] w fun e w' => e = .returned (.tuple #[]) ∧ w' = w := by
  have c6 := h.c6
  rcases h.od.form with ⟨rfl, h0⟩ | ⟨g, cap, rfl, _⟩
  · go_enter Tryd.func26, Tryd.ntmps26
    go_wp2
    refine bodyPost_ret (results_none rfl _ _ _) rfl ?_
    exact ⟨rfl, rfl⟩
  · rw [hd] at c6
    go_enter Tryd.func26, Tryd.ntmps26
    go_wp2
    refine bodyPost_ret (results_none rfl _ _ _) rfl ?_
    exact ⟨rfl, rfl⟩

set_option maxHeartbeats 800000 in
theorem endData_some (base : Nat) (w : World) (b : Nat) (r : RS) (vw vd vt : Value) (h : Rd base w b r vw vd vt) (hd : r.data ≠ []) (hf : r.fits) :
    Calls Tryd.prog 26 #[.pointer (some ⟨b, 0, none⟩)] w fun e w' => e = .returned (.tuple #[]) ∧ RdE base w' b r.flush ∧ Below base w w' ∧ ∀ k, k < w.heap.size → k ≠ b → vt.ownBlock ≠ some k → w'.heap[k]? = w.heap[k]? := by
  obtain ⟨i0, hi, hz0, hz1, hz2⟩ := info_parts Tryd.infoTok
  obtain ⟨hf1, hf2, hf3⟩ := hf
  have c6 := h.c6
  have c7 := h.c7
  have f6 := h.fr 6
  have f7 := h.fr 7
  have hblt := h.lt
  have hlo := h.lo
  have hstr := run_str h.od
  have hn0 : ((r.data.length : Int) == 0) = false := beq_eq_false_iff_ne.2 (by have : r.data.length ≠ 0 := fun e => hd (List.length_eq_zero_iff.1 e); omega)
  rcases h.od.form with ⟨rfl, h0⟩ | ⟨g, cap, rfl, hg1, hg2, hg3⟩
  · exact absurd (List.length_eq_zero_iff.1 h0) hd
  have hst : (convert 45 9 (.slice (some ⟨g, 0, none⟩) r.data.length cap)).run Tryd.prog w.drew = .ok (.string ⟨r.data.toArray⟩) w.drew := hstr 1
  clear hstr
  go_enter Tryd.func26, Tryd.ntmps26
  go_wp2
  go_region_law ((
    refine step_append_R _ (by rfl) (.tmp 12) (.tmp 19) 24 (by rfl) base 34 i0 (.agg #[.int .i64 0, .int .i64 0, .int .i64 0, .string ⟨#[]⟩]) 4 40 Tryd.underlying24 hi hz0 hz1 hz2 rfl (by decide) vt r.toks.length (tsCells r.toks) (by simp [Act.eval]) (by exact h.ot.keptAt fun k hk => Below.heap_alloc w _ k (h.ot.lt k hk).2) ⟨w.heap.size, 0, none⟩ 1 1 (tcells ⟨1, 0, 0, r.data⟩) (by simp [Act.eval]) rfl (by exact fun j u hu => World.news_of_block (MapKept.heap_alloc w _).1 j u hu) (tcells_one _) (by decide) (by unfold maxLen; omega) (by omega) (by simp; omega) (w.heap.size + 1) (by simp) ?_
    intro g1 cap1 w1 hown hgr hat hlt
    have k7 : w1.cell? ⟨b, 7, none⟩ = some vt := (hgr.cell_far ⟨b, 7, none⟩ (by simp; omega) (Ne.symm h.bt)).trans ((World.cell?_alloc_past _ _ _ hblt).trans c7)
    have e7 : w1.frozen? ⟨b, 7, none⟩ = false := (hgr.frozen_far ⟨b, 7, none⟩ (by simp; omega) (Ne.symm h.bt)).trans ((World.frozen?_alloc_past _ _ _ hblt).trans f7)
    have k6 : w1.cell? ⟨b, 6, none⟩ = some (.slice (some ⟨g, 0, none⟩) r.data.length cap) := (hgr.cell_far ⟨b, 6, none⟩ (by simp; omega) (Ne.symm h.bt)).trans ((World.cell?_alloc_past _ _ _ hblt).trans c6)
    have e6 : w1.frozen? ⟨b, 6, none⟩ = false := (hgr.frozen_far ⟨b, 6, none⟩ (by simp; omega) (Ne.symm h.bt)).trans ((World.frozen?_alloc_past _ _ _ hblt).trans f6)
    have H := h.grewT ⟨1, 0, 0, r.data⟩ hown (by exact fun k hk => Below.heap_alloc w _ k hk) (by simp) (by exact ((Below.refl base w).alloc (by omega) _).drew) hgr (by rcases hat with e | e; exact .inl e; exact .inr (by omega))
    have HH := Hid.mk' H
    clear H))
  all_goals
    go_wp2
    go_end0
    refine ⟨rfl, ?_, (HH.out).2.setCell hlo _, fun k hk hkb hkt => (set_other _ _ _ _ hkb).trans ((set_other _ _ _ _ hkb).trans ((hgr.block k (by simp; omega) (Ne.symm hkt)).trans (Below.heap_alloc w _ k hk)))⟩
    rw [RS.flush, if_neg hd]
    exact ⟨_, _, _, (HH.out).1.cutD⟩

theorem endData_any (base : Nat) (w : World) (b : Nat) (r : RS) (vw vd vt : Value) (h : Rd base w b r vw vd vt) (hf : r.fits) :
    Calls Tryd.prog 26 #[.pointer (some ⟨b, 0, none⟩)] w fun e w' => e = .returned (.tuple #[]) ∧ RdE base w' b r.flush ∧ Below base w w' ∧ ∀ k, k < w.heap.size → k ≠ b → vt.ownBlock ≠ some k → w'.heap[k]? = w.heap[k]? := by
  by_cases hd : r.data = []
  · refine (endData_none base w b r vw vd vt h hd).mono fun e w' ⟨he, hw⟩ => ?_
    subst hw
    exact ⟨he, by rw [RS.flush, if_pos hd]; exact ⟨_, _, _, h⟩, Below.refl _ _, fun _ _ _ _ => rfl⟩
  · exact endData_some base w b r vw vd vt h hd hf

theorem Rd.alloc {base : Nat} {w : World} {b : Nat} {r : RS} {vw vd vt : Value} (h : Rd base w b r vw vd vt) (o : Obj) : Rd base (w.alloc o) b r vw vd vt :=
  h.turn ((Below.heap_alloc _ _ _ h.lt).trans h.blk) (fun _ _ hk => Below.heap_alloc _ _ _ hk) rfl rfl rfl

theorem blkCells {w : World} {b : Nat} {a0 a1 a2 a3 a4 a5 a6 a7 : Value} {T : TypeId} (h : w.heap[b]? = some (.cells #[a0, a1, a2, a3, a4, a5, a6, a7] T (0, 0))) :
    w.cell? ⟨b, 0, none⟩ = some a0 ∧ w.cell? ⟨b, 1, none⟩ = some a1 ∧ w.cell? ⟨b, 2, none⟩ = some a2 ∧ w.cell? ⟨b, 3, none⟩ = some a3 ∧ w.cell? ⟨b, 4, none⟩ = some a4 ∧ w.cell? ⟨b, 5, none⟩ = some a5 ∧ w.cell? ⟨b, 6, none⟩ = some a6 ∧ w.cell? ⟨b, 7, none⟩ = some a7 ∧ ∀ j, w.frozen? ⟨b, j, none⟩ = false := by
  simp [World.cell?, World.frozen?, h]

theorem flush_toks (r : RS) : r.flush.toks.length ≤ r.toks.length + 1 := by
  unfold RS.flush; split <;> simp
theorem flush_data (r : RS) : r.flush.data = [] := by
  unfold RS.flush; split <;> simp_all

/-- a wire of noughts, and no words: what 'tell' leaves of the rest -/
theorem Rd.wiped {base : Nat} {w : World} {b : Nat} {r : RS} {vd vt : Value} {g n cap : Nat} (h : Rd base w b r (.slice (some ⟨g, 0, none⟩) n cap) vd vt) :
    Rd base (((((((w.setCell ⟨b, 0, none⟩ (.int .i64 0)).setCell ⟨b, 1, none⟩ (.int .i64 0)).setCell ⟨b, 2, none⟩ (.int .i64 0)).setCell ⟨b, 3, none⟩ (.string ⟨#[]⟩)).setCell ⟨b, 4, none⟩ (.bool false))).setCell ⟨b, 5, none⟩ (.slice (some ⟨g, 0, none⟩) 0 cap)) b ⟨0, 0, 0, false, [], r.data, r.toks⟩ (.slice (some ⟨g, 0, none⟩) 0 cap) vd vt := by
  have h1 : Rd base ((((((w.setCell ⟨b, 0, none⟩ (.int .i64 0)).setCell ⟨b, 1, none⟩ (.int .i64 0)).setCell ⟨b, 2, none⟩ (.int .i64 0)).setCell ⟨b, 3, none⟩ (.string ⟨#[]⟩)).setCell ⟨b, 4, none⟩ (.bool false))) b ⟨0, 0, 0, false, r.words, r.data, r.toks⟩ (.slice (some ⟨g, 0, none⟩) n cap) vd vt := by
    refine h.turn ?_ (fun k hk _ => ?_) rfl rfl rfl
    · rw [setCell_block (setCell_block (setCell_block (setCell_block (setCell_block h.blk _ _) _ _) _ _) _ _)]; rfl
    · rw [set_other _ _ _ _ hk, set_other _ _ _ _ hk, set_other _ _ _ _ hk, set_other _ _ _ _ hk, set_other _ _ _ _ hk]
  exact h1.cutW
theorem Rd.wipedNil {base : Nat} {w : World} {b : Nat} {r : RS} {vd vt : Value} (h : Rd base w b r (.slice none 0 0) vd vt) :
    Rd base (((((((w.setCell ⟨b, 0, none⟩ (.int .i64 0)).setCell ⟨b, 1, none⟩ (.int .i64 0)).setCell ⟨b, 2, none⟩ (.int .i64 0)).setCell ⟨b, 3, none⟩ (.string ⟨#[]⟩)).setCell ⟨b, 4, none⟩ (.bool false))).setCell ⟨b, 5, none⟩ (.slice none 0 0)) b ⟨0, 0, 0, false, [], r.data, r.toks⟩ (.slice none 0 0) vd vt := by
  have e : r.words = [] := by
    rcases h.ow.form with ⟨_, h0⟩ | ⟨g', c', h0, _⟩
    · exact List.length_eq_zero_iff.1 h0
    · simp at h0
  refine h.turn ?_ (fun k hk _ => ?_) e.symm rfl rfl
  · rw [setCell_block (setCell_block (setCell_block (setCell_block (setCell_block (setCell_block h.blk _ _) _ _) _ _) _ _) _ _)]; rfl
  · rw [set_other _ _ _ _ hk, set_other _ _ _ _ hk, set_other _ _ _ _ hk, set_other _ _ _ _ hk, set_other _ _ _ _ hk, set_other _ _ _ _ hk]

theorem RdE.told {base : Nat} {w : World} {b : Nat} {r : RS} {t : Tk} {x y z : Value} (h : Rd base w b ⟨0, 0, 0, false, [], r.flush.data, r.flush.toks ++ [t]⟩ x y z) : RdE base w b (r.tell t) := ⟨x, y, z, by rw [flush_data] at h; exact h⟩

set_option maxHeartbeats 800000 in
theorem tell_any (base : Nat) (w : World) (b : Nat) (r : RS) (vw vd vt : Value) (h : Rd base w b r vw vd vt) (hf : r.fits) (t : Tk) :
    Calls Tryd.prog 41 #[.pointer (some ⟨b, 0, none⟩), .agg #[.int .i64 t.kind, .int .i64 t.cmd, .int .i64 t.opt, .string ⟨t.data.toArray⟩]] w fun e w' => e = .returned (.tuple #[]) ∧ RdE base w' b (r.tell t) ∧ Below base w w' := by
  obtain ⟨i0, hi, hz0, hz1, hz2⟩ := info_parts Tryd.infoTok
  have hblt := h.lt
  have hlo := h.lo
  go_enter Tryd.func41, Tryd.ntmps41
  go_wp2_with fail
  refine (endData_any base _ b r vw vd vt (h.alloc _) hf).mono ?_
  rintro e w1 ⟨rfl, ⟨vw1, vd1, vt1, h1⟩, hb1, hk1⟩
  have hT : w1.heap[w.heap.size]? = some (.cells #[.int .i64 t.kind, .int .i64 t.cmd, .int .i64 t.opt, .string ⟨t.data.toArray⟩] 34 (0, 0)) := (hk1 w.heap.size (by simp) (by omega) (fun e => by have := (h.ot.lt _ e).2; omega)).trans (MapKept.heap_alloc w _).1
  have hTlt : w.heap.size < w1.heap.size := (Array.getElem?_eq_some_iff.1 hT).1
  have t0 : w1.cell? ⟨w.heap.size, 0, none⟩ = some (.int .i64 t.kind) := by simp [World.cell?, hT]
  have t1 : w1.cell? ⟨w.heap.size, 1, none⟩ = some (.int .i64 t.cmd) := by simp [World.cell?, hT]
  have t2 : w1.cell? ⟨w.heap.size, 2, none⟩ = some (.int .i64 t.opt) := by simp [World.cell?, hT]
  have t3 : w1.cell? ⟨w.heap.size, 3, none⟩ = some (.string ⟨t.data.toArray⟩) := by simp [World.cell?, hT]
  clear hT
  have c7 := h1.c7
  have f7 := h1.fr 7
  have hblt1 := h1.lt
  have hft := flush_toks r
  have hf2 := hf.2.1
  have HB : Hid (Below base w w1) := (((Below.refl base w).alloc (by omega) _).trans hb1)
  clear hk1 hb1
  go_wp2_with fail
  go_region_law ((
    refine step_append_R _ (by rfl) (.tmp 10) (.tmp 12) 24 (by rfl) base 34 i0 (.agg #[.int .i64 0, .int .i64 0, .int .i64 0, .string ⟨#[]⟩]) 4 40 Tryd.underlying24 hi hz0 hz1 hz2 rfl (by decide) vt1 r.flush.toks.length (tsCells r.flush.toks) (by simp [Act.eval]) (by exact h1.ot.keptAt fun k hk => Below.heap_alloc w1 _ k (h1.ot.lt k hk).2) ⟨w1.heap.size, 0, none⟩ 1 1 (tcells t) (by simp [Act.eval]) rfl (by exact fun j u hu => World.news_of_block (MapKept.heap_alloc w1 _).1 j u hu) (tcells_one _) (by decide) (by unfold maxLen; omega) (by omega) (by simp; omega) (w1.heap.size + 1) (by simp) ?_
    intro g1 cap1 w2 hown hgr hat hlt
    obtain ⟨k0, k1, k2, k3, k4, k5, k6, k7, kf⟩ := blkCells ((hgr.block b (by simp; omega) (Ne.symm h1.bt)).trans ((Below.heap_alloc w1 _ b hblt1).trans h1.blk))
    have H := h1.grewT t hown (by exact fun k hk => Below.heap_alloc w1 _ k hk) (by simp) (by exact ((Below.refl base w1).alloc (by omega) _).drew) hgr (by rcases hat with e | e; exact .inl e; exact .inr (by omega))
    have HH := Hid.mk' H
    clear H))
  all_goals
    rcases h1.ow.form with ⟨hv, _⟩ | ⟨g5, cap5, hv, _⟩
    · rw [hv] at k5
      have HV := Hid.mk' hv
      clear hv
      go_wp2
      go_end0
      have hv := HV.out
      have HT := HH.out
      subst hv
      refine ⟨rfl, ?_, ?_⟩
      · exact RdE.told HT.1.wipedNil
      · exact (HB.out).trans ((((((HT.2.setCell hlo _).setCell hlo _).setCell hlo _).setCell hlo _).setCell hlo _).setCell hlo _)
    · rw [hv] at k5
      have HV := Hid.mk' hv
      clear hv
      go_wp2
      go_end0
      have hv := HV.out
      have HT := HH.out
      subst hv
      refine ⟨rfl, ?_, ?_⟩
      · exact RdE.told HT.1.wiped
      · exact (HB.out).trans ((((((HT.2.setCell hlo _).setCell hlo _).setCell hlo _).setCell hlo _).setCell hlo _).setCell hlo _)

set_option maxHeartbeats 800000 in
theorem putWord_any (base : Nat) (w : World) (b : Nat) (r : RS) (vw vd vt : Value) (h : Rd base w b r vw vd vt) (hf : r.fits) (c : UInt8) :
    Calls Tryd.prog 54 #[.pointer (some ⟨b, 0, none⟩), .int .u8 (c.toNat : Int)] w fun e w' => e = .returned (.tuple #[]) ∧ RdE base w' b (r.putWord c) ∧ Below base w w' := by
  obtain ⟨i0, hi, hz0, hz1, hz2⟩ := info_parts Tryd.info5
  obtain ⟨hf1, hf2, hf3⟩ := hf
  have c4 := h.c4
  have c5 := h.c5
  have f4 := h.fr 4
  have f5 := h.fr 5
  have hblt := h.lt
  have hlo := h.lo
  by_cases ho : r.over = true
  · have HO := Hid.mk' ho
    rw [ho] at c4
    clear ho
    go_enter Tryd.func54, Tryd.ntmps54
    go_wp2
    refine bodyPost_ret (results_none rfl _ _ _) rfl ?_
    refine ⟨rfl, ?_, Below.refl _ _⟩
    rw [RS.putWord, if_pos HO.out]
    exact ⟨_, _, _, h⟩
  · have ho' : r.over = false := by simpa using ho
    have HO := Hid.mk' ho
    rw [ho'] at c4
    clear ho ho'
    by_cases hl : r.words.length = 4096
    · have hlb : ((r.words.length : Int) == 4096) = true := by rw [hl]; rfl
      have HL := Hid.mk' hl
      clear hl
      rcases h.ow.form with ⟨rfl, h0⟩ | ⟨g5, cap5, rfl, _⟩
      · have := HL.out; omega
      go_enter Tryd.func54, Tryd.ntmps54
      go_wp2
      refine bodyPost_ret (results_none rfl _ _ _) rfl ?_
      refine ⟨rfl, ?_, ((Below.refl base w).setCell hlo _).setCell hlo _⟩
      rw [RS.putWord, if_neg HO.out, if_pos HL.out]
      refine ⟨_, _, _, h.cutW.turn ?_ (fun k hk _ => set_other _ _ _ _ hk) rfl rfl rfl⟩
      rw [setCell_block h.cutW.blk]; rfl
    · have hlb : ((r.words.length : Int) == 4096) = false := beq_eq_false_iff_ne.2 (by omega)
      have HL := Hid.mk' hl
      clear hl
      have hlen : ∀ a n c, vw = .slice a n c → n = r.words.length := by
        intro a n c e
        rcases h.ow.form with ⟨h1, h0⟩ | ⟨g5, cap5, h1, _⟩
        · rw [h1] at e; simp at e; omega
        · rw [h1] at e; simp at e; exact e.2.1.symm
      rcases h.ow.form with ⟨rfl, h0⟩ | ⟨g5, cap5, rfl, _⟩
      · have HH0 := Hid.mk' h0
        clear h0 hlb hlen
        go_enter Tryd.func54, Tryd.ntmps54
        go_wp2_with (at_builtin; refine wpList_append_R _ rfl (.tmp 31) (.tmp 33) 45 rfl base 5 i0 (.int .u8 0) 1 1 Tryd.underlying45 hi hz0 hz1 hz2 rfl (by decide) (.slice none 0 0) r.words.length (bcells r.words) rfl (h.ow.keptAt fun k hk => Below.heap_alloc _ _ _ (h.ow.lt k hk).2) ⟨w.heap.size, 0, none⟩ 1 1 [.int .u8 (c.toNat : Int)] rfl rfl ?c1 (bcells_one c) (by decide) ?c3 ?c4 ?c5 (w.heap.size + 1) (by simp) ?_)
        case c1 => exact fun j u hu => World.news_of_block (MapKept.heap_alloc w _).1 j u hu
        case c3 => unfold maxLen; omega
        case c4 => omega
        case c5 => simp; omega
        intro g cap w1 hown hgr hat hlt
        have k5 : w1.cell? ⟨b, 5, none⟩ = some (.slice none 0 0) := (hgr.cell_far ⟨b, 5, none⟩ (by simp; omega) (Ne.symm h.bw)).trans ((World.cell?_alloc_past _ _ _ hblt).trans c5)
        have e5 : w1.frozen? ⟨b, 5, none⟩ = false := (hgr.frozen_far ⟨b, 5, none⟩ (by simp; omega) (Ne.symm h.bw)).trans ((World.frozen?_alloc_past _ _ _ hblt).trans f5)
        have H := Hid.mk' (h.grewW c _ hown hgr hat)
        go_wp2
        go_end0
        refine ⟨rfl, ?_, H.out.2⟩
        rw [RS.putWord, if_neg HO.out, if_neg HL.out]
        exact ⟨_, _, _, H.out.1⟩
      · clear hlen
        go_enter Tryd.func54, Tryd.ntmps54
        go_wp2_with (at_builtin; refine wpList_append_R _ rfl (.tmp 31) (.tmp 33) 45 rfl base 5 i0 (.int .u8 0) 1 1 Tryd.underlying45 hi hz0 hz1 hz2 rfl (by decide) (.slice (some ⟨g5, 0, none⟩) r.words.length cap5) r.words.length (bcells r.words) rfl (h.ow.keptAt fun k hk => Below.heap_alloc _ _ _ (h.ow.lt k hk).2) ⟨w.heap.size, 0, none⟩ 1 1 [.int .u8 (c.toNat : Int)] rfl rfl ?c1 (bcells_one c) (by decide) ?c3 ?c4 ?c5 (w.heap.size + 1) (by simp) ?_)
        case c1 => exact fun j u hu => World.news_of_block (MapKept.heap_alloc w _).1 j u hu
        case c3 => unfold maxLen; omega
        case c4 => omega
        case c5 => simp; omega
        intro g cap w1 hown hgr hat hlt
        have k5 : w1.cell? ⟨b, 5, none⟩ = some (.slice (some ⟨g5, 0, none⟩) r.words.length cap5) := (hgr.cell_far ⟨b, 5, none⟩ (by simp; omega) (Ne.symm h.bw)).trans ((World.cell?_alloc_past _ _ _ hblt).trans c5)
        have e5 : w1.frozen? ⟨b, 5, none⟩ = false := (hgr.frozen_far ⟨b, 5, none⟩ (by simp; omega) (Ne.symm h.bw)).trans ((World.frozen?_alloc_past _ _ _ hblt).trans f5)
        have H := Hid.mk' (h.grewW c _ hown hgr hat)
        go_wp2
        go_end0
        refine ⟨rfl, ?_, H.out.2⟩
        rw [RS.putWord, if_neg HO.out, if_neg HL.out]
        exact ⟨_, _, _, H.out.1⟩
end Go.Proofs.YtmcoliblkkploaaDoor
