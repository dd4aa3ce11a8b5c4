/-
  Contract of iac.Merge: rows of data made one token each, what has no bytes left out; conditions: at most 100000000 tokens, with at most 100000000 bytes together.
-/
import Derived.Test.YtmcoliblkkploaaDoorJoin
namespace Go.Proofs.YtmcoliblkkploaaDoor
open Go.RowKit

def mergeF : Nat → List Tk → List Tk
  | 0, _ => []
  | _ + 1, [] => []
  | f + 1, t :: l => if t.kind = 1 then (if (joinRow ((t :: l).take (rowLen (t :: l)))).data = [] then [] else [joinRow ((t :: l).take (rowLen (t :: l)))]) ++ mergeF f ((t :: l).drop (rowLen (t :: l))) else t :: mergeF f l
def merge (l : List Tk) : List Tk := mergeF l.length l

theorem rowLen_pos (t : Tk) (l : List Tk) (h : t.kind = 1) : rowLen (t :: l) = rowLen l + 1 := by rw [rowLen, if_pos h]
theorem mergeF_fuel : ∀ (n f g : Nat) (l : List Tk), l.length ≤ n → l.length ≤ f → l.length ≤ g → mergeF f l = mergeF g l
  | _, 0, 0, _, _, _, _ => rfl
  | _, 0, g + 1, [], _, _, _ => rfl
  | _, f + 1, 0, [], _, _, _ => rfl
  | _, f + 1, g + 1, [], _, _, _ => rfl
  | 0, _, _, _ :: _, h, _, _ => by simp at h
  | _, 0, _, _ :: _, _, h, _ => by simp at h
  | _, _, 0, _ :: _, _, _, h => by simp at h
  | n + 1, f + 1, g + 1, t :: l, hn, hf, hg => by
    simp only [List.length_cons] at hn hf hg
    rw [mergeF, mergeF]
    by_cases hk : t.kind = 1
    · rw [if_pos hk, if_pos hk]
      have hlen : ((t :: l).drop (rowLen (t :: l))).length ≤ l.length := by rw [rowLen_pos t l hk]; simp
      rw [mergeF_fuel n f g _ (by omega) (by omega) (by omega)]
    · rw [if_neg hk, if_neg hk, mergeF_fuel n f g l (by omega) (by omega) (by omega)]
theorem merge_nil : merge [] = [] := rfl
theorem merge_other (t : Tk) (l : List Tk) (h : t.kind ≠ 1) : merge (t :: l) = t :: merge l := by
  rw [merge, List.length_cons, mergeF, if_neg h]; rfl
theorem merge_row (t : Tk) (l : List Tk) (h : t.kind = 1) : merge (t :: l) = (if (joinRow ((t :: l).take (rowLen (t :: l)))).data = [] then [] else [joinRow ((t :: l).take (rowLen (t :: l)))]) ++ merge ((t :: l).drop (rowLen (t :: l))) := by
  rw [merge, List.length_cons, mergeF, if_pos h]
  congr 1
  have hlen : ((t :: l).drop (rowLen (t :: l))).length ≤ l.length := by rw [rowLen_pos t l h]; simp
  exact mergeF_fuel l.length _ _ _ hlen hlen (Nat.le_refl _)

/-- a slice of tokens that is only read -/
def RdL (w : World) (v : Value) (L : List Tk) : Prop :=
  ∃ a cap, v = .slice a L.length cap ∧ L.length ≤ cap ∧ (L = [] ∨ ∃ b off, a = some ⟨b, off, none⟩ ∧ Tread w b off L ∧ b < w.heap.size)
theorem OwnR.rdl {w : World} {base : Nat} {v : Value} {l : List Tk} (h : OwnR w base 34 4 v l.length (tsCells l)) : RdL w v l := by
  rcases h.form with ⟨rfl, e⟩ | ⟨g, cap, rfl, _, hg, hc⟩
  · have : l = [] := List.length_eq_zero_iff.1 e
    subst this
    exact ⟨none, 0, rfl, by simp, .inl rfl⟩
  · exact ⟨some ⟨g, 0, none⟩, cap, rfl, hc, .inr ⟨g, 0, rfl, h.tread, hg⟩⟩

def MState (w : World) (L : List Tk) (g : Nat) (s0 s3 : Value) (wr : World) : Prop :=
  ∃ R out a c, R.length ≤ g ∧ s0 = .slice a R.length c ∧ R.length ≤ c ∧ (R ≠ [] → ∃ b off, a = some ⟨b, off, none⟩ ∧ Tread w b off R ∧ b < w.heap.size) ∧
    OwnR wr w.heap.size 34 4 s3 out.length (tsCells out) ∧ Below w.heap.size w wr ∧ out ++ merge R = merge L ∧ out.length + R.length ≤ L.length ∧ dataSum R ≤ dataSum L

set_option maxHeartbeats 4000000 in
set_option maxRecDepth 100000 in
theorem Merge_any (w : World) (v : Value) (L : List Tk) (h : RdL w v L) (hn : L.length ≤ 100000000) (hd : dataSum L ≤ 100000000) :
    Calls Tryd.prog 19 #[v] w fun e w' => ∃ v', e = .returned v' ∧ OwnR w' w.heap.size 34 4 v' (merge L).length (tsCells (merge L)) ∧ Below w.heap.size w w' := by
  obtain ⟨a, cap, rfl, hcap, hL⟩ := h
  obtain ⟨i0, hi, hz0, hz1, hz2⟩ := info_parts Tryd.infoTok
  have HS : Hid (MState w L L.length (.slice a L.length cap) (.slice none 0 0) w) := by
    refine ⟨L, [], a, cap, Nat.le_refl _, rfl, by omega, fun hk => ?_, OwnR.nil _ _ _ _, Below.refl _ _, by simp, by simp, Nat.le_refl _⟩
    rcases hL with rfl | ⟨b, off, rfl, hT, hb⟩
    · exact absurd rfl hk
    · exact ⟨b, off, rfl, hT, hb⟩
  clear hL
  go_enter Tryd.func19, Tryd.ntmps19
  go_wp2
  go_loopg [0, 3] L.length (fun g s0 s3 wr => MState w L g s0 s3 wr)
  case atStart => exact HS.out
  case round =>
    obtain ⟨R, out, a1, c1, hg, rfl, hc, hR, ho, hbl, hm, hok, hds⟩ := hrel
    cases R with
    | nil =>
      have HO : Hid (OwnR wr w.heap.size 34 4 u3 (merge L).length (tsCells (merge L))) := by
        rw [merge_nil, List.append_nil] at hm
        rw [← hm]; exact ho
      have HB := Hid.mk' hbl
      clear hR ho hm hbl HS
      go_wp2
      go_ret
      exact ⟨_, rfl, HO.out, HB.out⟩
    | cons tk l =>
      obtain ⟨b, off, rfl, hT, hb⟩ := hR (by simp)
      have hTr := hT.below hbl hb
      have hsz := hbl.size
      have hbr : b < wr.heap.size := by omega
      obtain ⟨t0, t1, t2, t3⟩ := hTr 0 (by simp)
      simp only [Nat.zero_mul, Nat.add_zero, List.getElem_cons_zero] at t0 t1 t2 t3
      have hrl := rowLen_any wr b off c1 (tk :: l) hTr (by omega)
      have HRL := Hid.mk' hrl
      have HT := Hid.mk' hT
      have HB := Hid.mk' hbl
      have HMM := Hid.mk' hm
      have HDS := Hid.mk' hds
      simp only [List.length_cons] at hg hc hok HRL
      clear hrl hT hTr hR HS hbl hm hds
      by_cases hk : tk.kind = 1
      · have hn1 : rowLen (tk :: l) = rowLen l + 1 := rowLen_pos tk l hk
        have hn2 := rowLen_le l
        have HMR := Hid.mk' (merge_row tk l hk)
        have hlen1 : ((tk :: l).take (rowLen (tk :: l))).length = rowLen (tk :: l) := by rw [List.length_take, List.length_cons]; omega
        have hds1 : dataSum ((tk :: l).take (rowLen (tk :: l))) ≤ 100000000 := Nat.le_trans (dataSum_take _ _) (Nat.le_trans HDS.out hd)
        have hjr := joinRow_any wr b off c1 ((tk :: l).take (rowLen (tk :: l))) ((HT.out.below HB.out hb).take _) hbr (by omega) hds1
        rw [hlen1] at hjr
        have HTD := Hid.mk' (HT.out.drop (rowLen (tk :: l)))
        have HDD : Hid (dataSum ((tk :: l).drop (rowLen (tk :: l))) ≤ dataSum L) := Nat.le_trans (dataSum_drop _ _) HDS.out
        have hlen2 : ((tk :: l).drop (rowLen (tk :: l))).length = l.length + 1 - rowLen (tk :: l) := by rw [List.length_drop, List.length_cons]
        rw [HMR.out] at HMM
        have HL2 := Hid.mk' hlen2
        clear HMR hlen1 hds1 hk HT HDS hlen2
        generalize joinRow ((tk :: l).take (rowLen (tk :: l))) = one at *
        generalize (tk :: l).drop (rowLen (tk :: l)) = R2 at *
        rw [hn1] at hjr HRL HTD HL2
        clear hn1
        generalize rowLen l = n at *
        have HJR := Hid.mk' hjr
        clear hjr t0 t1 t2 t3
        obtain ⟨kd, cm, op, dt⟩ := one
        simp only [Tk.val] at HJR
        by_cases hdt : dt = []
        · have hdb : (dt == []) = true := by simp [hdt]
          have HDT := Hid.mk' hdt
          clear hdt
          go_wp2_with fail
          refine HRL.out.mono ?_
          rintro e w' ⟨rfl, rfl⟩
          go_wp2_with fail
          refine HJR.out.mono ?_
          rintro e w2 ⟨rfl, hb2⟩
          have HB2 : Hid (Below w.heap.size w w2) := HB.out.trans (hb2.mono hsz)
          have HO2 : Hid (OwnR w2 w.heap.size 34 4 u3 out.length (tsCells out)) := ho.keptAt fun k hk => hb2.block k (ho.lt k hk).2
          have hsz2 := hb2.size
          clear hb2 ho
          have hL : R2.length = l.length - n := by have := HL2.out; omega
          have HLL := Hid.mk' hL
          clear hL
          go_wp2
          all_goals
            go_roundg (l.length - n)
            case measure => omega
            case rel =>
              have hL := HLL.out
              refine ⟨R2, out, _, _, by omega, by rw [hL], by omega, fun hne => ?_, HO2.out.keptAt fun k hk => Below.heap_alloc _ _ _ (HO2.out.lt k hk).2, HB2.out.alloc (by omega) _, ?_, by omega, HDD.out⟩
              · first
                | exact absurd (List.length_eq_zero_iff.1 (by omega)) hne
                | exact ⟨b, _, rfl, HTD.out, hb⟩
              · have := HMM.out
                rw [if_pos HDT.out] at this
                simpa using this
        · have hdb : (dt == []) = false := by simp [hdt]
          have HDT := Hid.mk' hdt
          clear hdt
          go_wp2_with fail
          refine HRL.out.mono ?_
          rintro e w' ⟨rfl, rfl⟩
          go_wp2_with fail
          refine HJR.out.mono ?_
          rintro e w2 ⟨rfl, hb2⟩
          have HB2 : Hid (Below w.heap.size w w2) := HB.out.trans (hb2.mono hsz)
          have ho2 : OwnR w2 w.heap.size 34 4 u3 out.length (tsCells out) := ho.keptAt fun k hk => hb2.block k (ho.lt k hk).2
          have hsz2 := hb2.size
          clear hb2 ho
          have hL : R2.length = l.length - n := by have := HL2.out; omega
          have HLL := Hid.mk' hL
          clear hL
          go_wp2_with (at_builtin; refine wpList_append_R _ rfl (.tmp 28) (.tmp 30) 24 rfl w.heap.size 34 i0 (.agg #[.int .i64 0, .int .i64 0, .int .i64 0, .string ⟨#[]⟩]) 4 40 Tryd.underlying24 hi hz0 hz1 hz2 rfl (by decide) u3 out.length (tsCells out) rfl (ho2.keptAt fun k hk => (Below.heap_alloc _ _ _ (by have := (ho2.lt k hk).2; simp; omega)).trans (Below.heap_alloc _ _ _ (ho2.lt k hk).2)) ⟨w2.heap.size + 1, 0, none⟩ 1 1 (tcells ⟨kd, cm, op, dt⟩) rfl rfl ?c1 (tcells_one _) (by decide) ?c3 ?c4 ?c5 (w2.heap.size + 1 + 1) (by simp) ?_)
          case c1 => exact fun j u hu => World.news_of_block (by simpa using (MapKept.heap_alloc (w2.alloc (.cells #[.int .i64 kd, .int .i64 cm, .int .i64 op, .string ⟨dt.toArray⟩] 34)) _).1) j u hu
          case c3 => unfold maxLen; omega
          case c4 => omega
          case c5 => simp; omega
          intro g cap1 w3 hown hgr hat hlt
          have HO := Hid.mk' hown
          have HBB : Hid (Below w.heap.size w w3) := ((HB2.out.alloc (by omega) _).alloc (by simp; omega) _).grown hgr (by simp; omega) (fun k hk => (ho2.lt k hk).1)
          clear hown hgr hat
          go_wp2
          all_goals
            go_roundg (l.length - n)
            case measure => omega
            case rel =>
              have hL := HLL.out
              refine ⟨R2, out ++ [⟨kd, cm, op, dt⟩], _, _, by omega, by rw [hL], by omega, fun hne => ?_, ?_, HBB.out, ?_, by simp; omega, HDD.out⟩
              · first
                | exact absurd (List.length_eq_zero_iff.1 (by omega)) hne
                | exact ⟨b, _, rfl, HTD.out, hb⟩
              · have := HO.out
                simpa [tsCells_snoc] using this
              · have := HMM.out
                rw [if_neg HDT.out] at this
                simpa using this
      · have h0 : rowLen (tk :: l) = 0 := by rw [rowLen, if_neg hk]
        rw [h0] at HRL
        have HK := Hid.mk' hk
        clear h0 hk
        obtain ⟨kd, cm, op, dt⟩ := tk
        simp only [List.length_cons] at *
        go_wp2_with fail
        refine HRL.out.mono ?_
        rintro e w' ⟨rfl, rfl⟩
        go_wp2_with (at_builtin; refine wpList_append_R _ rfl (.tmp 13) (.tmp 17) 24 rfl w.heap.size 34 i0 (.agg #[.int .i64 0, .int .i64 0, .int .i64 0, .string ⟨#[]⟩]) 4 40 Tryd.underlying24 hi hz0 hz1 hz2 rfl (by decide) u3 out.length (tsCells out) rfl (ho.keptAt fun k hk => Below.heap_alloc _ _ _ (ho.lt k hk).2) ⟨wr.heap.size, 0, none⟩ 1 1 (tcells ⟨kd, cm, op, dt⟩) rfl rfl ?c1 (tcells_one _) (by decide) ?c3 ?c4 ?c5 (wr.heap.size + 1) (by simp) ?_)
        case c1 => exact fun j u hu => World.news_of_block (MapKept.heap_alloc wr _).1 j u hu
        case c3 => unfold maxLen; omega
        case c4 => omega
        case c5 => simp; omega
        intro g cap1 w1 hown hgr hat hlt
        have HO := Hid.mk' hown
        have HBB : Hid (Below w.heap.size w w1) := (HB.out.alloc (by omega) _).grown hgr (by simp; omega) (fun k hk => (ho.lt k hk).1)
        clear hown hgr hat
        go_wp2
        all_goals
          go_roundg l.length
          case measure => omega
          case rel =>
            refine ⟨l, out ++ [⟨kd, cm, op, dt⟩], _, _, Nat.le_refl _, rfl, by omega, fun hne => ?_, ?_, HBB.out, ?_, ?_, ?_⟩
            · first
              | exact absurd (List.length_eq_zero_iff.1 (by omega)) hne
              | exact ⟨b, off + 4, rfl, by simpa using HT.out.drop 1, hb⟩
            · have := HO.out
              simpa [tsCells_snoc] using this
            · rw [← HMM.out, merge_other _ _ HK.out]; simp
            · simp; omega
            · have := HDS.out
              simp [dataSum] at *
              omega
end Go.Proofs.YtmcoliblkkploaaDoor
