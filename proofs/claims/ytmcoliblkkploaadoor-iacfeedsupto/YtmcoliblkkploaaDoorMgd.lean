/-
  Contract of farref.Merged: the same as iac.Merge's; conditions: at most 100000000 tokens, with at most 100000000 bytes together.
-/
import Derived.Test.YtmcoliblkkploaaDoorMrg
import Derived.BigRegion
namespace Go.Proofs.YtmcoliblkkploaaDoor
open Go.RowKit

theorem OwnR.keptBy {w w' : World} {base : Nat} {e : TypeId} {size : Nat} {v : Value} {n : Nat} {xs : List Value} (h : OwnR w base e size v n xs) (hb : Below w.heap.size w w') : OwnR w' base e size v n xs :=
  h.keptAt fun k hk => hb.block k (h.lt k hk).2
theorem bytes_join (a b : List UInt8) : (⟨a.toArray⟩ ++ ⟨b.toArray⟩ : ByteArray) = ⟨(a ++ b).toArray⟩ := by
  apply ByteArray.ext
  simp
theorem kinds_snoc {M : List Tk} {j : Nat} (h : ∀ x (h : x < M.length), x < j → M[x].kind = 1) (hj : j < M.length) (hk : M[j].kind = 1) : ∀ x (h : x < M.length), x < j + 1 → M[x].kind = 1 := fun x hx hlt => by
  by_cases e : x = j
  · subst e; exact hk
  · exact h x hx (by omega)

def RefRow (M : List Tk) (j : Nat) (c o : Int) (d : List UInt8) : Prop :=
  (joinTo (M.take j)).2 = d ∧ (d ≠ [] → (joinTo (M.take j)).1.kind = 1 ∧ (joinTo (M.take j)).1.cmd = c ∧ (joinTo (M.take j)).1.opt = o)
theorem RefRow.start (M : List Tk) (c o : Int) : RefRow M 0 c o [] := ⟨rfl, fun h => absurd rfl h⟩
theorem RefRow.stepNew {M : List Tk} {j : Nat} {c o : Int} (h : RefRow M j c o []) (hj : j < M.length) (hk : M[j].kind = 1) : RefRow M (j + 1) M[j].cmd M[j].opt M[j].data := by
  obtain ⟨h1, _⟩ := h
  unfold RefRow
  rw [joinTo_snoc M j hj, joinStep, h1, if_pos rfl]
  exact ⟨rfl, fun _ => ⟨hk, rfl, rfl⟩⟩
theorem RefRow.stepOld {M : List Tk} {j : Nat} {c o : Int} {d : List UInt8} (h : RefRow M j c o d) (hj : j < M.length) (hd : d ≠ [] ∨ M[j].data = []) : RefRow M (j + 1) c o (d ++ M[j].data) := by
  obtain ⟨h1, h2⟩ := h
  unfold RefRow
  rw [joinTo_snoc M j hj, joinStep, h1]
  refine ⟨rfl, fun hne => ?_⟩
  by_cases e : d = []
  · rcases hd with h | h
    · exact absurd e h
    · exact absurd (by rw [e, h]; rfl) hne
  · rw [if_neg e]; exact h2 e
theorem RefRow.done {M : List Tk} {j : Nat} {c o : Int} {d : List UInt8} (h : RefRow M j c o d) (hd : d ≠ []) : joinRow (M.take j) = ⟨1, c, o, d⟩ := by
  obtain ⟨h1, h2⟩ := h
  obtain ⟨a, b, e⟩ := h2 hd
  unfold joinRow
  rw [h1]
  generalize (joinTo (M.take j)).1 = z at *
  obtain ⟨z1, z2, z3, z4⟩ := z
  simp only at a b e
  subst a; subst b; subst e
  rfl
theorem RefRow.none {M : List Tk} {j : Nat} {c o : Int} (h : RefRow M j c o []) : (joinRow (M.take j)).data = [] := h.1
theorem RefRow.len {M : List Tk} {j : Nat} {c o : Int} {d : List UInt8} (h : RefRow M j c o d) : d.length ≤ dataSum M := by
  rw [← h.1, joinTo_len]
  exact dataSum_take _ _

def QState (w : World) (L : List Tk) (g : Nat) (s3 s4 : Value) (wr : World) : Prop :=
  ∃ (i : Nat) (out : List Tk), i ≤ L.length ∧ L.length - i ≤ g ∧ s4 = .int .i64 i ∧ OwnR wr w.heap.size 34 4 s3 out.length (tsCells out) ∧ Below w.heap.size w wr ∧ out ++ merge (L.drop i) = merge L ∧ out.length ≤ i

def IState (L : List Tk) (i : Nat) (wo : World) (g : Nat) (s4 s6 : Value) (wq : World) : Prop :=
  ∃ (j : Nat) (c o : Int) (d : List UInt8), i + j ≤ L.length ∧ L.length - (i + j) ≤ g ∧ s4 = .int .i64 ((i + j : Nat) : Int) ∧ s6 = .bool (d == []) ∧ (∀ x (h : x < (L.drop i).length), x < j → (L.drop i)[x].kind = 1) ∧ RefRow (L.drop i) j c o d ∧
    wq.heap[wo.heap.size]? = some (.cells #[.int .i64 1, .int .i64 c, .int .i64 o, .string ⟨d.toArray⟩] 34 (0, 0)) ∧ Below wo.heap.size wo wq ∧ wo.heap.size < wq.heap.size

set_option maxHeartbeats 8000000 in
set_option maxRecDepth 100000 in
theorem Merged_any (w : World) (v : Value) (L : List Tk) (h : RdL w v L) (hn : L.length ≤ 100000000) (hd : dataSum L ≤ 100000000) :
    Calls Tryd.prog 14 #[v] w fun e w' => ∃ v', e = .returned v' ∧ OwnR w' w.heap.size 34 4 v' (merge L).length (tsCells (merge L)) ∧ Below w.heap.size w w' := by
  obtain ⟨a, cap, rfl, hcap, hL⟩ := h
  obtain ⟨i0, hi, hz0, hz1, hz2⟩ := info_parts Tryd.infoTok
  have HLr := Hid.mk' hL
  clear hL
  have HS : Hid (QState w L L.length (.slice none 0 0) (.int .i64 0) w) :=
    ⟨0, [], Nat.zero_le _, by omega, rfl, OwnR.nil _ _ _ _, Below.refl _ _, by simp, by simp⟩
  go_enter Tryd.func14, Tryd.ntmps14
  go_wp2_with fail
  go_loopg [3, 4] L.length (fun g s3 s4 wr => QState w L g s3 s4 wr)
  case atStart => exact HS.out
  case round =>
    obtain ⟨i, out, hil, hg, rfl, ho, hbl, hm, hoi⟩ := hrel
    clear HS
    by_cases hlt : i < L.length
    · obtain ⟨b, off, rfl, hT, hb⟩ : ∃ b off, a = some ⟨b, off, none⟩ ∧ Tread w b off L ∧ b < w.heap.size := by
        rcases HLr.out with rfl | h
        · simp at hlt
        · exact h
      have hTw := hT.below hbl hb
      obtain ⟨t0, t1, t2, t3⟩ := hTw i hlt
      have hsz := hbl.size
      have hbr : b < wr.heap.size := by omega
      have HT := Hid.mk' hT
      have HB := Hid.mk' hbl
      have HM := Hid.mk' hm
      have hdr : L.drop i = L[i] :: L.drop (i + 1) := List.drop_eq_getElem_cons hlt
      have HDR := Hid.mk' hdr
      clear hT hTw hbl hm hdr
      generalize hTk : L[i] = tk at *
      have HTk := Hid.mk' hTk
      clear hTk
      obtain ⟨kd, cm, op, dt⟩ := tk
      simp only at t0 t1 t2 t3
      by_cases hk : kd = 1
      · subst hk
        go_wp2_with fail
        go_region
        all_goals
          go_wp2_with fail
          clear t0 t1 t2 t3 HTk
          obtain ⟨wo, hwo⟩ : ∃ x, x = wr := ⟨_, rfl⟩
          subst hwo
          obtain ⟨vo, hvo⟩ : ∃ x, x = u3 := ⟨_, rfl⟩
          subst hvo
          go_loopg [4, 6] L.length (fun g s4 s6 wq => IState L i wo g s4 s6 wq)
          case atStart =>
            refine ⟨0, cm, op, [], by omega, by omega, rfl, rfl, fun x _ h => absurd h (Nat.not_lt_zero _), RefRow.start _ _ _, ?_, ((Below.refl _ _).alloc (Nat.le_refl _) _).drew, by simp⟩
            exact (MapKept.heap_alloc wo _).1
          case round =>
            obtain ⟨j, c, o, d, hij, hgj, rfl, rfl, hal, hrf, hblk, hbq, hsq⟩ := hrel
            have HRF := Hid.mk' hrf
            have HAL := Hid.mk' hal
            have HBK := Hid.mk' hblk
            have HBQ := Hid.mk' hbq
            have HBW : Hid (Below w.heap.size w wr) := HB.out.trans (hbq.mono hsz)
            have hdl := hrf.len
            have hdl2 := dataSum_drop L i
            obtain ⟨o0, o1, o2, o3, of⟩ := blk4 hblk
            have hbr2 : b < wr.heap.size := by omega
            have hdl3 : d.length ≤ 100000000 := by omega
            clear hal hrf hblk hbq hdl hdl2
            by_cases hl2 : i + j < L.length
            · obtain ⟨t0, t1, t2, t3⟩ := (HT.out.below HBW.out hb) (i + j) hl2
              have hjd : j < (L.drop i).length := by simp; omega
              have hge : (L.drop i)[j] = L[i + j] := by simp
              have hdk : d.length + L[i + j].data.length ≤ 100000000 := by
                have e : (joinTo ((L.drop i).take (j + 1))).2.length = d.length + L[i + j].data.length := by rw [joinTo_snoc _ j hjd, joinStep, HRF.out.1, hge]; simp
                rw [← e, joinTo_len]
                exact Nat.le_trans (dataSum_take _ _) (Nat.le_trans (dataSum_drop _ _) hd)
              generalize hTj : L[i + j] = tj at *
              clear hTj
              obtain ⟨kj, cj, oj, dj⟩ := tj
              simp only at t0 t1 t2 t3 hdk
              by_cases hkj : kj = 1
              · subst hkj
                have HGE := Hid.mk' hge
                clear hge
                by_cases hd0 : d = []
                · have qd : (d == []) = true := by simp [hd0]
                  by_cases hj0 : dj = []
                  · have qj : (dj == []) = true := by simp [hj0]
                    have HD0 := Hid.mk' hd0
                    have HJ0 := Hid.mk' hj0
                    clear hd0 hj0
                    go_wp2_with fail
                    go_region
                    all_goals
                      go_wp2
                      go_roundg (L.length - (i + (j + 1)))
                      case measure => omega
                      case rel =>
                        refine ⟨j + 1, c, o, d ++ dj, by omega, Nat.le_refl _, by go_num, ?_, kinds_snoc HAL.out hjd (by rw [HGE.out]), ?_, ?_, ?_, by simpa using hsq⟩
                        · simp [HD0.out, HJ0.out]
                        · have := HRF.out.stepOld hjd (.inr (by rw [HGE.out]; exact HJ0.out))
                          rw [HGE.out] at this
                          exact this
                        · show (wr.setCell ⟨wo.heap.size, 3, none⟩ (.string (⟨d.toArray⟩ ++ ⟨dj.toArray⟩))).heap[wo.heap.size]? = _
                          rw [setCell_block HBK.out, bytes_join]; rfl
                        · exact (HBQ.out.setCell (by simp) _).drew
                  · have qj : (dj == []) = false := by simp [hj0]
                    have HD0 := Hid.mk' hd0
                    have HJ0 := Hid.mk' hj0
                    clear hd0 hj0
                    go_wp2_with fail
                    go_region
                    all_goals
                      go_wp2_with fail
                      go_region
                      all_goals
                        go_wp2
                        go_roundg (L.length - (i + (j + 1)))
                        case measure => omega
                        case rel =>
                          refine ⟨j + 1, cj, oj, d ++ dj, by omega, Nat.le_refl _, by go_num, ?_, kinds_snoc HAL.out hjd (by rw [HGE.out]), ?_, ?_, ?_, by simpa using hsq⟩
                          · simp [HD0.out, HJ0.out]
                          · have := HRF.out
                            rw [HD0.out] at this
                            have := this.stepNew hjd (by rw [HGE.out])
                            rw [HGE.out] at this
                            rw [HD0.out]
                            exact this
                          · show (((wr.setCell ⟨wo.heap.size, 1, none⟩ (.int .i64 cj)).setCell ⟨wo.heap.size, 2, none⟩ (.int .i64 oj)).setCell ⟨wo.heap.size, 3, none⟩ (.string (⟨d.toArray⟩ ++ ⟨dj.toArray⟩))).heap[wo.heap.size]? = _
                            rw [setCell_block (setCell_block (setCell_block HBK.out _ _) _ _), bytes_join]; rfl
                          · exact ((((HBQ.out.setCell (by simp) _).setCell (by simp) _).drew).setCell (by simp) _).drew
                · have qd : (d == []) = false := by simp [hd0]
                  have HD0 := Hid.mk' hd0
                  clear hd0
                  go_wp2_with fail
                  go_region
                  all_goals
                    go_wp2
                    go_roundg (L.length - (i + (j + 1)))
                    case measure => omega
                    case rel =>
                      refine ⟨j + 1, c, o, d ++ dj, by omega, Nat.le_refl _, by go_num, ?_, kinds_snoc HAL.out hjd (by rw [HGE.out]), ?_, ?_, ?_, by simpa using hsq⟩
                      · simp [HD0.out]
                      · have := HRF.out.stepOld hjd (.inl HD0.out)
                        rw [HGE.out] at this
                        exact this
                      · show (wr.setCell ⟨wo.heap.size, 3, none⟩ (.string (⟨d.toArray⟩ ++ ⟨dj.toArray⟩))).heap[wo.heap.size]? = _
                        rw [setCell_block HBK.out, bytes_join]; rfl
                      · exact (HBQ.out.setCell (by simp) _).drew
              · have qk : (kj == 1) = false := beq_eq_false_iff_ne.2 hkj
                have hrow : rowLen (L.drop i) = j := rowLen_all _ j HAL.out (by simp; omega) (fun h => by rw [hge]; exact hkj)
                clear hkj hge
                have HRL := Hid.mk' hrow
                have hj1 : 1 ≤ j := by
                  have := HRL.out
                  rw [HDR.out, rowLen_pos _ _ rfl] at this
                  omega
                have hmr : merge (L.drop i) = (if (joinRow ((L.drop i).take j)).data = [] then [] else [joinRow ((L.drop i).take j)]) ++ merge (L.drop (i + j)) := by
                  have e := merge_row ⟨1, cm, op, dt⟩ (L.drop (i + 1)) rfl
                  rw [← HDR.out, HRL.out, List.drop_drop] at e
                  exact e
                have HMR := Hid.mk' hmr
                clear hmr hrow
                by_cases hd0 : d = []
                · subst hd0
                  go_wp2
                  all_goals
                    go_roundg (L.length - (i + j))
                    case measure => omega
                    case rel =>
                      refine ⟨i + j, out, by omega, Nat.le_refl _, rfl, ho.keptBy HBQ.out, HBW.out, ?_, by omega⟩
                      rw [← HM.out, HMR.out, if_pos HRF.out.none]
                      simp
                · have qd : (d == []) = false := by simp [hd0]
                  have qd2 : (d != []) = true := by simp [bne, qd]
                  have HD0 := Hid.mk' hd0
                  clear hd0
                  have ho2 := ho.keptBy HBQ.out
                  go_wp2_with (at_builtin; refine wpList_append_R _ rfl (.tmp 84) (.tmp 86) 24 rfl w.heap.size 34 i0 (.agg #[.int .i64 0, .int .i64 0, .int .i64 0, .string ⟨#[]⟩]) 4 40 Tryd.underlying24 hi hz0 hz1 hz2 rfl (by decide) vo out.length (tsCells out) rfl (ho2.keptAt fun k hk => Below.heap_alloc _ _ _ (ho2.lt k hk).2) ⟨wr.heap.size, 0, none⟩ 1 1 (tcells ⟨1, c, o, d⟩) rfl rfl ?c1 (tcells_one _) (by decide) ?c3 ?c4 ?c5 (wr.heap.size + 1) (by simp) ?_)
                  case c1 => first | exact fun j u hu => World.news_of_block (MapKept.heap_alloc wr _).1 j u hu | exact fun j u hu => hu
                  case c3 => unfold maxLen; omega
                  case c4 => omega
                  case c5 => first | omega | (simp; omega)
                  intro g1 cap1 w1 hown hgr hat hlt1
                  have HO := Hid.mk' hown
                  have hsw := HBW.out.size
                  have HBB : Hid (Below w.heap.size w w1) := (HBW.out.alloc (by omega) _).grown hgr (by simp; omega) (fun k hk => (ho2.lt k hk).1)
                  clear hown hgr hat
                  go_wp2
                  all_goals
                    go_roundg (L.length - (i + j))
                    case measure => omega
                    case rel =>
                      refine ⟨i + j, out ++ [⟨1, c, o, d⟩], by omega, Nat.le_refl _, rfl, ?_, HBB.out, ?_, by simp; omega⟩
                      · have := HO.out
                        simpa [tsCells_snoc] using this
                      · have e := HRF.out.done HD0.out
                        rw [← HM.out, HMR.out, e, if_neg HD0.out]
                        simp
            · have hrow : rowLen (L.drop i) = j := rowLen_all _ j HAL.out (by simp; omega) (fun h => by simp at h; omega)
              have HRL := Hid.mk' hrow
              have hj1 : 1 ≤ j := by
                have := HRL.out
                rw [HDR.out, rowLen_pos _ _ rfl] at this
                omega
              have hmr : merge (L.drop i) = (if (joinRow ((L.drop i).take j)).data = [] then [] else [joinRow ((L.drop i).take j)]) ++ merge (L.drop (i + j)) := by
                have e := merge_row ⟨1, cm, op, dt⟩ (L.drop (i + 1)) rfl
                rw [← HDR.out, HRL.out, List.drop_drop] at e
                exact e
              have HMR := Hid.mk' hmr
              clear hmr hrow
              by_cases hd0 : d = []
              · subst hd0
                go_wp2
                all_goals
                  go_roundg (L.length - (i + j))
                  case measure => omega
                  case rel =>
                    refine ⟨i + j, out, by omega, Nat.le_refl _, rfl, ho.keptBy HBQ.out, HBW.out, ?_, by omega⟩
                    rw [← HM.out, HMR.out, if_pos HRF.out.none]
                    simp
              · have qd : (d == []) = false := by simp [hd0]
                have qd2 : (d != []) = true := by simp [bne, qd]
                have HD0 := Hid.mk' hd0
                clear hd0
                have ho2 := ho.keptBy HBQ.out
                go_wp2_with (at_builtin; refine wpList_append_R _ rfl (.tmp 84) (.tmp 86) 24 rfl w.heap.size 34 i0 (.agg #[.int .i64 0, .int .i64 0, .int .i64 0, .string ⟨#[]⟩]) 4 40 Tryd.underlying24 hi hz0 hz1 hz2 rfl (by decide) vo out.length (tsCells out) rfl (ho2.keptAt fun k hk => Below.heap_alloc _ _ _ (ho2.lt k hk).2) ⟨wr.heap.size, 0, none⟩ 1 1 (tcells ⟨1, c, o, d⟩) rfl rfl ?c1 (tcells_one _) (by decide) ?c3 ?c4 ?c5 (wr.heap.size + 1) (by simp) ?_)
                case c1 => first | exact fun j u hu => World.news_of_block (MapKept.heap_alloc wr _).1 j u hu | exact fun j u hu => hu
                case c3 => unfold maxLen; omega
                case c4 => omega
                case c5 => first | omega | (simp; omega)
                intro g1 cap1 w1 hown hgr hat hlt1
                have HO := Hid.mk' hown
                have hsw := HBW.out.size
                have HBB : Hid (Below w.heap.size w w1) := (HBW.out.alloc (by omega) _).grown hgr (by simp; omega) (fun k hk => (ho2.lt k hk).1)
                clear hown hgr hat
                go_wp2
                all_goals
                  go_roundg (L.length - (i + j))
                  case measure => omega
                  case rel =>
                    refine ⟨i + j, out ++ [⟨1, c, o, d⟩], by omega, Nat.le_refl _, rfl, ?_, HBB.out, ?_, by simp; omega⟩
                    · have := HO.out
                      simpa [tsCells_snoc] using this
                    · have e := HRF.out.done HD0.out
                      rw [← HM.out, HMR.out, e, if_neg HD0.out]
                      simp
      · have hq : (kd != 1) = true := by rw [bne_iff_ne]; exact hk
        have HK := Hid.mk' hk
        clear hk
        go_wp2_with (at_builtin; refine wpList_append_R _ rfl (.tmp 17) (.tmp 22) 24 rfl w.heap.size 34 i0 (.agg #[.int .i64 0, .int .i64 0, .int .i64 0, .string ⟨#[]⟩]) 4 40 Tryd.underlying24 hi hz0 hz1 hz2 rfl (by decide) u3 out.length (tsCells out) rfl (ho.keptAt fun k hk => Below.heap_alloc _ _ _ (ho.lt k hk).2) ⟨wr.heap.size, 0, none⟩ 1 1 (tcells ⟨kd, cm, op, dt⟩) rfl rfl ?c1 (tcells_one _) (by decide) ?c3 ?c4 ?c5 (wr.heap.size + 1) (by simp) ?_)
        case c1 => first | exact fun j u hu => World.news_of_block (MapKept.heap_alloc wr _).1 j u hu | exact fun j u hu => hu
        case c3 => unfold maxLen; omega
        case c4 => omega
        case c5 => first | omega | (simp; omega)
        intro g1 cap1 w1 hown hgr hat hlt1
        have HO := Hid.mk' hown
        have HBB : Hid (Below w.heap.size w w1) := (HB.out.alloc (by omega) _).grown hgr (by simp; omega) (fun k hk => (ho.lt k hk).1)
        clear hown hgr hat
        go_wp2
        all_goals
          go_roundg (L.length - (i + 1))
          case measure => omega
          case rel =>
            refine ⟨i + 1, out ++ [⟨kd, cm, op, dt⟩], by omega, Nat.le_refl _, by go_num, ?_, HBB.out, ?_, by simp; omega⟩
            · have := HO.out
              simpa [tsCells_snoc] using this
            · rw [← HM.out, HDR.out, merge_other _ _ HK.out]; simp
    · obtain rfl : i = L.length := by omega
      have HO : Hid (OwnR wr w.heap.size 34 4 u3 (merge L).length (tsCells (merge L))) := by
        rw [List.drop_length, merge_nil, List.append_nil] at hm
        rw [← hm]; exact ho
      have HB := Hid.mk' hbl
      clear ho hm hbl
      go_wp2
      go_ret
      exact ⟨_, rfl, HO.out, HB.out⟩
end Go.Proofs.YtmcoliblkkploaaDoor
