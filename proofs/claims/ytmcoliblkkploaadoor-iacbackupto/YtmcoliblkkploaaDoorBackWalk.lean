/-
  The walk of farkeep.IacBack: it returns true and leaves what was there; conditions: five times the tokens and their bytes are together at most 1048576, and the variable internal/bytealg.MaxLen holds some int.
-/
import Derived.Test.YtmcoliblkkploaaDoorBld
import Derived.Test.YtmcoliblkkploaaDoorCutsWalk
import Derived.Test.YtmcoliblkkploaaDoorLaw4
namespace Go.Proofs.YtmcoliblkkploaaDoor
open Go.RowKit

def BState (w : World) (L : List Tk) (g : Nat) (s4 s14 : Value) (wr : World) : Prop :=
  ∃ k : Nat, k ≤ L.length ∧ L.length - k ≤ g ∧ s14 = .int .i64 k ∧ OwnR wr (w.heap.size + 1) 34 4 s4 (told (L.take k)).length (tsCells (told (L.take k))) ∧
    Lib.IsBuilderF 47 5 w.heap.size w.heap.size (Lib.byteCells (said (L.take k))) wr ∧ Below w.heap.size w wr ∧ w.heap.size < wr.heap.size

set_option maxHeartbeats 8000000 in
set_option maxRecDepth 100000 in
theorem IacBack_any (v : Value) (L : List Tk) (m : Int) (w : World) (h : RdL w v L) (hs : 5 * L.length + dataSum L ≤ 1048576) (hm : w.cell? ⟨0, 0, none⟩ = some (.int .i64 m)) :
    Calls Tryd.prog 6 #[v] w fun e w' => e = .returned (.bool true) ∧ Below w.heap.size w w' := by
  have h0 : 0 < w.heap.size := World.block_lt_of_cell? _ _ hm
  obtain ⟨i0, hi, hz0, hz1, hz2⟩ := info_parts Tryd.infoTok
  obtain ⟨a, cap, rfl, hcap, hL⟩ := h
  have HLr := Hid.mk' hL
  clear hL
  have HS : Hid (BState w L L.length (.slice none 0 0) (.int .i64 0) (w.alloc (.cells #[.pointer none, .slice none 0 0] 47))) :=
    ⟨0, Nat.zero_le _, by omega, rfl, OwnR.nil _ _ _ _, .inl ⟨Nat.le_refl _, .slice none 0 0, by simpa using (MapKept.heap_alloc w (.cells #[.pointer none, .slice none 0 0] 47)).1, ⟨by simp [told, said, Lib.byteCells], .inl ⟨rfl, by simp [told, said, Lib.byteCells]⟩⟩, by simp [Value.ownBlock]⟩, (Below.refl _ _).alloc (Nat.le_refl _) _, by simp⟩
  go_enter Tryd.func6, Tryd.ntmps6
  go_wp2_with fail
  go_loopg [4, 14] L.length (fun g s4 s14 wr => BState w L g s4 s14 wr)
  case atStart => exact HS.out
  case round =>
    obtain ⟨k, hk, hg, rfl, ho, hB, hbl, hsz⟩ := hrel
    clear HS
    by_cases hlt : k < L.length
    · obtain ⟨b, off, rfl, hT, hb⟩ : ∃ b off, a = some ⟨b, off, none⟩ ∧ Tread w b off L ∧ b < w.heap.size := by
        rcases HLr.out with rfl | h
        · simp at hlt
        · exact h
      have hTw := hT.below hbl hb
      obtain ⟨t0, t1, t2, t3⟩ := hTw k hlt
      have hbr : b < wr.heap.size := by omega
      have HTS := Hid.mk' (told_snoc L k hlt)
      have HSS := Hid.mk' (said_snoc L k hlt)
      have hdk := dataSum_at L k hlt
      have hsl := said_length (L.take k)
      have hsl2 := dataSum_take L k
      have hsl3 : (L.take k).length ≤ L.length := by simp; omega
      have htl0 := told_length (L.take k)
      clear hT hTw
      generalize hTk : L[k] = tk at *
      clear hTk
      have htl := text_length tk
      have HW := Hid.mk' (fun W (hW : World.cell? W ⟨0, 0, none⟩ = some (.int .i64 m)) => Write_any tk m W (by omega) hW)
      have HM : Hid (∀ o, (wr.alloc o).cell? ⟨0, 0, none⟩ = some (.int .i64 m)) := fun o => by
        rw [World.cell?_alloc_past (hn := by omega)]
        exact (hbl.cell (p := ⟨0, 0, none⟩) h0).trans hm
      have HO := Hid.mk' ho
      have HBl := Hid.mk' hB
      have HB := Hid.mk' hbl
      have hsN : (said (L.take k)).length ≤ 10000000 := by omega
      have htN : (told (L.take k)).length ≤ 1048576 := by omega
      have hUN : (text tk).1.length ≤ 10000000 := by omega
      clear ho hB hbl hsl hsl2 hsl3 htl htl0 hdk
      generalize (text tk).1 = U at *
      generalize (text tk).2 = E at *
      generalize hac : told (L.take k) = acc at *
      generalize hby : said (L.take k) = by_ at *
      clear hac hby
      obtain ⟨kd, cm, op, dt⟩ := tk
      simp only [Tk.val] at *
      by_cases hE : E = 0
      · subst hE
        simp only [if_true] at HTS HSS
        go_wp2_with fail
        refine (HW.out _ (HM.out _)).mono ?_
        rintro e w1 ⟨rfl, hb1⟩
        have hs1 := hb1.size
        simp only [World.size_alloc] at hs1
        have hblk1 : w1.heap[wr.heap.size]? = some (.cells #[.int .i64 kd, .int .i64 cm, .int .i64 op, .string ⟨dt.toArray⟩] 34) := (hb1.block _ (by simp)).trans (MapKept.heap_alloc wr _).1
        have hB1 := IsBuilderF.later (Lib.IsBuilderF.alloc HBl.out (.cells #[.int .i64 kd, .int .i64 cm, .int .i64 op, .string ⟨dt.toArray⟩] 34)) hb1
        have HO1 := Hid.mk' ((HO.out.allocd (.cells #[.int .i64 kd, .int .i64 cm, .int .i64 op, .string ⟨dt.toArray⟩] 34)).later hb1)
        have HB1 : Hid (Below w.heap.size w w1) := (HB.out.alloc (by omega) _).trans (hb1.mono (by simp; omega))
        have HWS := Hid.mk' (WriteString_any w.heap.size w.heap.size _ ⟨U.toArray⟩ w1 hB1 (by rw [Lib.byteCells_length]; simp [ByteArray.size]; omega) (by omega))
        have HK1 := Hid.mk' hblk1
        clear hblk1 hB1 hb1 HW HM HO HBl t0 t1 t2 t3
        go_wp2_with fail
        refine HWS.out.mono ?_
        rintro e w2 ⟨rfl, hB2, hbl2, hk2⟩
        have hs2 := hbl2.size
        have hblk2 := hk2 _ _ HK1.out (by simp; omega) (by simp)
        have d2 : ∀ j, w2.cell? ⟨wr.heap.size, j, none⟩ = (#[.int .i64 kd, .int .i64 cm, .int .i64 op, .string ⟨dt.toArray⟩] : Array Value)[j]? := fun j => by simp [World.cell?, hblk2]
        have ho2 := HO1.out.others hk2 (by decide) (by omega)
        have HB2 : Hid (Below w.heap.size w w2) := HB1.out.trans hbl2
        have HBu := Hid.mk' hB2
        clear hblk2 hk2 hbl2 hB2 HWS HO1 HK1 HB1 HB
        go_wp2_with (at_builtin; refine wpList_append_R _ rfl (.tmp 27) (.tmp 29) 24 rfl (w.heap.size + 1) 34 i0 (.agg #[.int .i64 0, .int .i64 0, .int .i64 0, .string ⟨#[]⟩]) 4 40 Tryd.underlying24 hi hz0 hz1 hz2 rfl (by decide) u4 acc.length (tsCells acc) rfl (ho2.keptAt fun k hk => Below.heap_alloc _ _ _ (ho2.lt k hk).2) ⟨w2.heap.size, 0, none⟩ 1 1 (tcells ⟨kd, cm, op, dt⟩) rfl rfl ?c1 (tcells_one _) (by decide) ?c3 ?c4 ?c5 (w2.heap.size + 1) (by simp) ?_)
        case c1 => exact fun j u hu => World.news_of_block (MapKept.heap_alloc w2 _).1 j u hu
        case c3 => unfold maxLen; omega
        case c4 => omega
        case c5 => simp; omega
        intro g1 cap1 w3 hown hgr hat hlt3
        have HO3 := Hid.mk' hown
        have hs3 := hgr.size
        simp only [World.size_alloc] at hs3
        have HB3 : Hid (Below w.heap.size w w3) := (HB2.out.alloc (by omega) _).grown hgr (by simp; omega) (fun k hk => by have := (ho2.lt k hk).1; omega)
        have HBu3 : Hid (Lib.IsBuilderF 47 5 w.heap.size w.heap.size (Lib.byteCells (by_ ++ U)) w3) := by
          rw [Lib.byteCells_append]
          refine IsBuilderF.keptAt (Lib.IsBuilderF.alloc (.inr HBu.out) (.cells #[.int .i64 kd, .int .i64 cm, .int .i64 op, .string ⟨dt.toArray⟩] 34)) fun j cur t fz hj ht => hgr.block j ?_ ?_
          · rcases Nat.lt_or_ge j (w2.alloc (.cells #[.int .i64 kd, .int .i64 cm, .int .i64 op, .string ⟨dt.toArray⟩] 34)).heap.size with h' | h'
            · exact h'
            · simp only [Array.getElem?_eq_none h'] at hj; cases hj
          · intro e
            obtain ⟨c, f, hc⟩ := ho2.typed j e.symm
            rw [Below.heap_alloc _ _ _ (ho2.lt j e.symm).2, hc] at hj
            simp at hj
            obtain ⟨_, rfl, _⟩ := hj
            revert ht
            decide
        clear hown hgr hat ho2 d2 HBu HB2
        go_wp2
        all_goals
          go_roundg (L.length - (k + 1))
          case measure => omega
          case rel =>
            refine ⟨k + 1, by omega, Nat.le_refl _, by go_num, ?_, ?_, HB3.out, by omega⟩
            · rw [HTS.out]
              have := HO3.out
              simpa [tsCells_snoc] using this
            · rw [HSS.out]
              exact HBu3.out
      · have hq : (E == 0) = false := beq_eq_false_iff_ne.2 hE
        simp only [if_neg hE] at HTS HSS
        clear hE
        go_wp2_with fail
        refine (HW.out _ (HM.out _)).mono ?_
        rintro e w1 ⟨rfl, hb1⟩
        have hs1 := hb1.size
        simp only [World.size_alloc] at hs1
        have HB1 := Hid.mk' (IsBuilderF.later (Lib.IsBuilderF.alloc HBl.out (.cells #[.int .i64 kd, .int .i64 cm, .int .i64 op, .string ⟨dt.toArray⟩] 34)) hb1)
        have HO1 := Hid.mk' ((HO.out.allocd (.cells #[.int .i64 kd, .int .i64 cm, .int .i64 op, .string ⟨dt.toArray⟩] 34)).later hb1)
        have HBB : Hid (Below w.heap.size w w1) := (HB.out.alloc (by omega) _).trans (hb1.mono (by simp; omega))
        clear hb1 HW HM HO HBl t0 t1 t2 t3 HB
        go_wp2
        all_goals
          go_roundg (L.length - (k + 1))
          case measure => omega
          case rel =>
            refine ⟨k + 1, by omega, Nat.le_refl _, by go_num, ?_, ?_, HBB.out, by omega⟩
            · rw [HTS.out]
              exact HO1.out
            · rw [HSS.out]
              exact HB1.out
    · obtain rfl : k = L.length := by omega
      rw [List.take_length] at ho hB
      have hsl := said_length L
      have htl := told_length L
      have hts := told_sum L
      obtain ⟨hft, hfw⟩ := feed_said L
      have hnl := feed_count zeroW (said L) (by simp [zeroW])
      have HF := Hid.mk' (fun W => Feed_ok zeroW (said L) W rfl (by omega))
      rw [hfw, hft] at HF
      rw [hft] at hnl
      have HST := Hid.mk' (String_any w.heap.size w.heap.size (said L) wr hB (by omega))
      have HO := Hid.mk' ho
      have HB := Hid.mk' hbl
      have HL := lives m
      have hmN : (merge (told L)).length ≤ 1000000000 := by omega
      have htN : (told L).length ≤ 100000000 := by omega
      have hdN : dataSum (told L) ≤ 100000000 := by omega
      clear hft hfw ho hB hbl hk hg hlt HLr hsl htl hts hnl
      simp only [zeroW, Wr.val] at HF
      generalize said L = S at *
      generalize hTT : told L = T at *
      clear hTT
      go_wp2_with fail
      refine HST.out.mono ?_
      rintro e w1 ⟨rfl, _, hbl1, hk1⟩
      have hs1 := hbl1.size
      have HO1 := Hid.mk' (HO.out.others hk1 (by decide) (by omega))
      have HB1 : Hid (Below w.heap.size w w1) := HB.out.trans hbl1
      clear hbl1 hk1 HST HO HB
      go_wp2_with fail
      refine (HF.out _).mono ?_
      rintro e w2 ⟨v2, rfl, ho2, hb2⟩
      have hs2 := hb2.size
      have HB2 : Hid (∀ o, Below w.heap.size w (w2.alloc o)) := fun o => (HB1.out.trans (hb2.mono (by omega))).alloc (by omega) o
      have HO2 := Hid.mk' (HO1.out.later hb2)
      have HM2 := Hid.mk' ho2
      have hM : Hid (∀ o, (w2.alloc o).cell? ⟨0, 0, none⟩ = some (.int .i64 m)) := fun o => ((HB2.out o).cell (p := ⟨0, 0, none⟩) h0).trans hm
      clear hb2 ho2 HF HO1 HB1
      go_wp2_with fail
      refine (HL _ (hM.out _)).mono ?_
      rintro e w3 ⟨rfl, hb3⟩
      have d3 := later_cells (bfirst hb3)
      have hs3 := hb3.size
      simp only [World.size_alloc] at hs3
      have HB3 : Hid (Below w.heap.size w w3) := (HB2.out _).trans (hb3.mono (by simp; omega))
      have HO3 := Hid.mk' ((HO2.out.allocd _).later hb3)
      have HM3 := Hid.mk' ((HM2.out.allocd _).later hb3)
      clear hb3 HO2 HM2 hM HB2
      have HMG := Hid.mk' (Merge_any w3 u4 T HO3.out.rdl htN hdN)
      go_wp2_with fail
      refine HMG.out.mono ?_
      rintro e w4 ⟨v4, rfl, ho4, hb4⟩
      have heq := Equal_any w4 v2 v4 (merge T) (merge T) _ _ (HM3.out.later hb4) ho4 hmN hmN
      rw [(Tk.eqs_iff _ _).2 rfl] at heq
      have HEQ := Hid.mk' heq
      have HB4 : Hid (Below w.heap.size w w4) := HB3.out.trans (hb4.mono (by omega))
      clear ho4 hb4 heq HMG
      go_wp2_with fail
      refine HEQ.out.mono ?_
      rintro e w5 ⟨rfl, q, rfl⟩
      go_wp2
      go_ret
      exact ⟨rfl, below_drewN HB4.out q⟩
end Go.Proofs.YtmcoliblkkploaaDoor
