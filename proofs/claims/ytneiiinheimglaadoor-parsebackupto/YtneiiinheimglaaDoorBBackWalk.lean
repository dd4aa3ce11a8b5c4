/-
  The walk of farkeep.ParseBack: it returns true; conditions: the tables of unicode/utf8 and internal/strconv.uint64pow10 hold what their initialisers lay; at most 2^20 acts, of texts and numbers of at most 2^20 each.
-/
import Derived.Test.YtneiiinheimglaaDoorBPW
import Derived.Test.YtneiiinheimglaaDoorBForth
import Derived.Test.YtneiiinheimglaaDoorBLives
import Derived.Test.YtneiiinheimglaaDoorBApp0
import Derived.Test.YtneiiinheimglaaDoorBApA0
namespace Go.Proofs.YtneiiinheimglaaDoor.B
open Go.RowKit Go.Lib Go.Proofs.YtneiiinheimglaaDoor Go.Proofs.YtneiiinheimglaaDoor.W Go.Proofs.YtneiiinheimglaaDoor.Q Go.Proofs.YtneiiinheimglaaDoor.C Go.Proofs.YtneiiinheimglaaDoor.Z

def wA (a : Ac) : Bool := wB a.kind a.code a.mark a.inter a.args a.text
theorem wA_iff (a : Ac) : wA a = true ↔ wOk a := wB_iff a.kind a.code a.mark a.inter a.args a.text
theorem wL_len {a : Ac} (h : wOk a) : (wL a).length ≤ 2000 := by
  have h1 := wrT_rd (kd := a.kind) (cd := a.code) (mk := a.mark) (im := a.inter) (ar := a.args) (tx := a.text) h
  have h2 := wrT_len (kd := a.kind) (cd := a.code) (mk := a.mark) (im := a.inter) (ar := a.args) (tx := a.text) h
  have h3 := (U.rd_left _ (wrT a.kind a.code a.mark a.inter a.args a.text) (Nat.le_refl _)).2
  have h4 := congrArg List.length h1
  unfold U.ints at h4
  rw [List.length_map] at h4
  show (wL ⟨a.kind, a.code, a.mark, a.inter, a.args, a.text⟩).length ≤ 2000
  omega
def good (L : List Ac) (k : Nat) : List Ac := (L.take k).filter wA
def runesB (l : List Ac) : List Int := (l.map wL).flatten
theorem good_next (L : List Ac) (k : Nat) (h : k < L.length) : good L (k + 1) = good L k ++ (if wA L[k] then [L[k]] else []) := by
  unfold good
  rw [List.take_succ_eq_append_getElem h, List.filter_append]
  congr 1
  by_cases hw : wA L[k] = true
  · rw [if_pos hw, List.filter_cons_of_pos hw]; rfl
  · rw [if_neg hw, List.filter_cons_of_neg hw]; rfl
theorem good_len (L : List Ac) (k : Nat) : (good L k).length ≤ k := by
  unfold good
  have h1 := List.length_filter_le wA (L.take k)
  have h2 := List.length_take_le k L
  omega
theorem good_ok (L : List Ac) (k : Nat) : ∀ a ∈ good L k, wOk a := fun a ha => (wA_iff a).1 (List.mem_filter.1 ha).2
theorem runesB_app (a b : List Ac) : runesB (a ++ b) = runesB a ++ runesB b := by unfold runesB; rw [List.map_append, List.flatten_append]
theorem runesB_len : ∀ l : List Ac, (∀ a ∈ l, wOk a) → (runesB l).length ≤ 2000 * l.length
  | [], _ => Nat.zero_le _
  | a :: l, h => by
    have h1 := runesB_len l (fun x hx => h x (by simp [hx]))
    have h2 := wL_len (h a (by simp))
    show (wL a ++ runesB l).length ≤ _
    rw [List.length_append, List.length_cons]
    omega
/-- acts of a row that a call owns, of numbers that lie wherever they lie -/
def Ob (w0 : World) (base : Nat) (W : World) (v : Value) (L : List Ac) : Prop := ∃ ad cap xs, v = .slice ad xs.length cap ∧ xs.map Prod.fst = L ∧ OwnA W base ad cap xs ∧ ∀ x ∈ xs, RdI w0 x.2 x.1.args
theorem Ob.below {w0 W V : World} {base : Nat} {v : Value} {L : List Ac} (h : Ob w0 base W v L) (hb : Below W.heap.size W V) : Ob w0 base V v L := by
  obtain ⟨ad, cap, xs, e, ex, ho, hr⟩ := h
  exact ⟨ad, cap, xs, e, ex, ho.below hb, hr⟩
theorem Ob.rd {w0 W : World} {base : Nat} {v : Value} {L : List Ac} (h : Ob w0 base W v L) (hb : Below w0.heap.size w0 W) : RdA W v L := by
  obtain ⟨ad, cap, xs, e, ex, ho, hr⟩ := h
  rw [e, ← ex]
  exact RdA.own ho (fun x hx => (hr x hx).below hb)
def BState (w : World) (L : List Ac) (s3 s4 s14 : Value) (W : World) : Prop :=
  ∃ k : Nat, k ≤ L.length ∧ s14 = .int .i64 (k : Int) ∧ Hid (OwnI W w.heap.size s3 (runesB (good L k))) ∧ Hid (Ob w w.heap.size W s4 (good L k)) ∧ Hid (Below w.heap.size w W)
theorem kept_own {W V : World} {base : Nat} {t : TypeId} {v : Value} {n c : Nat} {l : List Value} (h : OwnR W base t c v n l) (hk : ∀ (k : Nat) (cs : Array Value) (fz : Nat × Nat), W.heap[k]? = some (.cells cs t fz) → V.heap[k]? = some (.cells cs t fz)) : OwnR V base t c v n l :=
  OwnR.keptAt h (fun k hb => by
    obtain ⟨cur, fz, hc⟩ := h.typed k hb
    rw [hc]
    exact hk k cur fz hc)
/-- what lives while the region is walked -/
structure Sk (w : World) (b6 : Nat) (y : Ac) (vy : Value) (W : World) : Prop where
  a : Box W b6 35 (acells y vy)
  b : Below w.heap.size w W
  le : w.heap.size ≤ b6
theorem step_append_one {w : World} {o : Oper} {a : Act} {ops : Array Oper} {Q : Exit → Act → World → Prop} {K : Act → World → Prop} {X : Prop} (hgd : o.guard = none) (s x : Operand)
    (ho : o.op = .call { callee := .builtin .append, args := #[s, x], argTypes := #[25, 25] })
    (base : Nat) (ad : Option Addr) (cap : Nat) (l : List (Ac × Value)) (n : Nat) (hs : a.eval s = .slice ad n cap) (hnl : n = l.length) (hown : OwnA w base ad cap l) (y : Ac) (vy : Value) (hy1 : vy.oneCell' = true) (g0 c : Nat) (hx : a.eval x = .slice (some ⟨g0, 0, none⟩) 1 c) (hg0 : Box w g0 35 (acells y vy)) (hb : base ≤ w.heap.size) (hn : l.length ≤ 1099511627776)
    (next : ∀ ad' cap' n' w', Hid (n' = (l ++ [(y, vy)]).length) → OwnA w' base ad' cap' (l ++ [(y, vy)]) → (∀ B W, B ≤ base → Below B W w → Below B W w') → (∀ k, k < w.heap.size → (Value.slice ad l.length cap).ownBlock ≠ some k → w'.heap[k]? = w.heap[k]?) → (∀ (k : Nat) (cs : Array Value) (t : TypeId) (fz : Nat × Nat), t ≠ 35 → w.heap[k]? = some (.cells cs t fz) → w'.heap[k]? = some (.cells cs t fz)) → K (a.put o.dst (.slice ad' n' cap')) w') : if Region.wanted o (yielded ops a.tmps) = true then Oper.wp Tryd.prog o a w K Q else X := by
  have hw : Region.wanted o (yielded ops a.tmps) = true := by simp [Region.wanted, hgd]
  rw [if_pos hw]
  subst hnl
  obtain ⟨i0, hi, hz0, hz1, hz2⟩ := info_parts infoAct
  unfold OwnA at hown
  obtain ⟨g, c2, w', a1, a2, a3, _, _⟩ := run_append_R (P := Tryd.prog) w 25 o.type base 35 i0 (.agg #[.int .i64 0, .int .i64 0, .int .i64 0, .string ⟨#[]⟩, .slice none 0 0, .string ⟨#[]⟩]) 6 80 Tryd.underlying25 hi hz0 hz1 hz2 rfl (by decide) (.slice ad l.length cap) l.length (asC l) hown ⟨g0, 0, none⟩ 1 c (asC [(y, vy)]) (by simp [asC, acells])
    (fun j u hu => World.news_of_block hg0 j u (by simpa [asC] using hu)) (asC_one [(y, vy)] (fun x hx => by rw [List.mem_singleton.1 hx]; exact hy1)) (by omega) (by unfold maxLen; omega) (by omega) hb _ rfl
  have e1 : (l ++ [(y, vy)]).length = l.length + 1 := by simp
  unfold Oper.wp execOp
  simp only [ho, resolve, invoke, builtin, Sem.run_bind, Sem.run_pure, Result.andThen_ok, List.map_toArray, List.map_cons, List.map_nil, hs, hx, a1]
  refine next _ c2 (l.length + 1) w' e1.symm ?_ (fun B W hB hBW => hBW.grown a3 (by omega) (fun k hk => by have := (hown.lt k hk).1; omega)) (fun k hk hne => a3.block k hk (fun e => hne e.symm)) (fun k cs t fz ht hk => ?_)
  · unfold OwnA
    rw [e1, asC_app]
    exact a2
  · rw [a3.block k (Array.getElem?_eq_some_iff.1 hk).1 (fun e => by
      obtain ⟨cur, fz', hc⟩ := hown.typed k e.symm
      rw [hk] at hc
      simp only [Option.some.injEq, Obj.cells.injEq] at hc
      exact ht hc.2.1)]
    exact hk
theorem RdI.one {w : World} {v : Value} {l : List Int} (h : RdI w v l) : v.oneCell' = true := by
  obtain ⟨a, c, e, _⟩ := h
  rw [e]; rfl
theorem small_args {p : Ps} (hp : right p) (l : List Int) : ∀ y ∈ (run p l).2, y.args.length ≤ 17592186044416 := by
  intro y hy
  have h := run_shape l hp y hy
  have h32 : ∀ s, (readT s).1.length ≤ 32 := fun s => by
    unfold readT
    split
    · exact rd_len s
    · exact Nat.zero_le _
  rcases h with h | ⟨h, _⟩ | ⟨h, _⟩ | ⟨h, _⟩ | ⟨h, _, _, _, _, s, _, _, e⟩ | ⟨h, _⟩
  · rw [h]; exact Nat.zero_le _
  · rw [h]; exact Nat.zero_le _
  · rw [h]; exact Nat.zero_le _
  · rw [h]; exact Nat.zero_le _
  · rw [e]; have := h32 s; omega
  · rw [h]; exact Nat.zero_le _


set_option maxHeartbeats 16000000 in
set_option maxRecDepth 100000 in
theorem ParseBack_any (v : Value) (L : List Ac) (w : World) (hv : RdA w v L) (hT : Tab w) (hU : U.Tabs w) (hn : L.length ≤ 1048576) (hs : ∀ y ∈ L, y.inter.length ≤ 1048576 ∧ y.text.length ≤ 1048576 ∧ y.args.length ≤ 1048576) :
    Calls Tryd.prog 4 #[v] w fun e w' => e = .returned (.bool true) ∧ Below w.heap.size w w' := by
  obtain ⟨a, cap, xs, rfl, hcap, ex, hrx, hxx⟩ := hv
  have lx : xs.length = L.length := by rw [← ex]; simp
  have HCM : Hid (∀ k (h : k < L.length), ∃ b1 o1 va, a = some ⟨b1, o1, none⟩ ∧ RdI w va (L[k]).args ∧ ∀ W, Below w.heap.size w W → ∀ i u, (acells L[k] va)[i]? = some u → W.cell? ⟨b1, o1 + k * 6 + i, none⟩ = some u) := by
    intro k h
    rcases hxx with h0 | ⟨b1, o1, e1, hb1, t1⟩
    · rw [h0] at h; simp at h
    have kx : k < xs.length := by omega
    have fx : xs[k].1 = L[k] := by simp only [← ex, List.getElem_map]
    refine ⟨b1, o1, xs[k].2, e1, ?_, fun W hW i u hu => ?_⟩
    · have := hrx xs[k] (List.getElem_mem kx); rwa [fx] at this
    · have hi : i < 6 := by have := (List.getElem?_eq_some_iff.1 hu).1; simpa [acells] using this
      have e := asC_at xs k kx i hi
      rw [fx, hu] at e
      have := t1 _ _ e
      rw [← Nat.add_assoc] at this
      exact (hW.cell (p := ⟨b1, _, none⟩) hb1).trans this
  clear hxx hrx ex lx
  have HS : Hid (BState w L (.slice none 0 0) (.slice none 0 0) (.int .i64 0) w) := ⟨0, Nat.zero_le _, rfl, OwnI.nil _ _, ⟨none, 0, [], rfl, rfl, OwnA.nil _ _, fun _ h => by cases h⟩, Below.refl _ _⟩
  have HNO := Hid.mk' (fun (y : Ac) (vy : Value) W (hr : RdI W vy y.args) (hB : Below w.heap.size w W) (hy : y ∈ L) (hb : wA y = false) => PWrite_no y.kind y.code y.mark y.inter y.args y.text vy W hr (hT.below hB) (hU.below hB) (hs y hy).1 (hs y hy).2.1 (hs y hy).2.2 hb)
  have HOK := Hid.mk' (fun (y : Ac) (vy : Value) W (hr : RdI W vy y.args) (hB : Below w.heap.size w W) (hy : y ∈ L) (hb : wA y = true) => PWrite_ok y.kind y.code y.mark y.inter y.args y.text vy W hr (hT.below hB) (hU.below hB) (hs y hy).1 (hs y hy).2.1 (hs y hy).2.2 ((wA_iff y).1 hb))
  have HGN := Hid.mk' (fun k h => good_next L k h)
  have HGL := Hid.mk' (fun k => good_len L k)
  have HGO := Hid.mk' (fun k => good_ok L k)
  have HRL := Hid.mk' (fun k => runesB_len (good L k) (good_ok L k))
  have HBA := Hid.mk' (show run p0 (runesB (good L L.length)) = (p0, good L L.length) from back_all _ (good_ok L _))
  have HFD := Hid.mk' (fun vr l W h1 h2 => Feed_ok p0 right_p0 vr l W h1 h2)
  have HLV := Hid.mk' (fun W => lives_any W)
  have HSM := Hid.mk' (small_args right_p0 (runesB (good L L.length)))
  clear hs hT hU
  go_enter Tryd.func4, Tryd.ntmps4
  go_wp2_with fail
  go_loopw [3, 4, 14] (fun s3 s4 s14 wr => BState w L s3 s4 s14 wr) (fun _ _ i _ => L.length - (RowKit.intOf i).toNat)
  case atStart => exact HS.out
  case round =>
    obtain ⟨k, hk, rfl, HI, HO, HB⟩ := hrel
    clear HS
    by_cases hlt : k < L.length
    · obtain ⟨b1, o1, vy, ha, hry, hcl⟩ := HCM.out k hlt
      subst ha
      have hcl2 := hcl wr HB.out
      have p0 := hcl2 0 _ rfl
      have p1 := hcl2 1 _ rfl
      have p2 := hcl2 2 _ rfl
      have p3 := hcl2 3 _ rfl
      have p4 := hcl2 4 _ rfl
      have p5 := hcl2 5 _ rfl
      rw [Nat.add_zero] at p0
      have hyL : L[k] ∈ L := List.getElem_mem hlt
      have hgn := HGN.out k hlt
      have hgl := HGL.out k
      have hrl := HRL.out k
      have HN : Hid (∀ u3 u4 W, OwnI W w.heap.size u3 (runesB (good L (k + 1))) → Ob w w.heap.size W u4 (good L (k + 1)) → Below w.heap.size w W → BState w L u3 u4 (.int .i64 ((k : Int) + 1)) W) := fun u3 u4 W h1 h2 h3 => ⟨k + 1, by omega, by simp, h1, h2, h3⟩
      rw [hgn] at HN
      have HNO2 := Hid.mk' (fun W (hr : RdI W vy (L[k]).args) (hB : Below w.heap.size w W) (hb : wA L[k] = false) => HNO.out L[k] vy W hr hB hyL hb)
      have HOK2 := Hid.mk' (fun W (hr : RdI W vy (L[k]).args) (hB : Below w.heap.size w W) (hb : wA L[k] = true) => HOK.out L[k] vy W hr hB hyL hb)
      clear HNO HOK HGN HGL HGO HRL HBA HFD HLV HSM HCM hcl hcl2 hyL hgn
      generalize L[k] = y at *
      generalize good L k = G at *
      obtain ⟨oa, oc, oxs, e4, oex, oo, orr⟩ := HO.out
      subst e4
      have HLT := Hid.mk' (fun k hk => (oo.lt k hk).2)
      have HOO := Hid.mk' oo
      have oex0 := Hid.mk' oex
      have or0 := Hid.mk' orr
      clear HO oex oo orr
      have HRY := Hid.mk' hry
      obtain ⟨ya, yc, yeq, yrest⟩ := hry
      clear yrest
      generalize hyn : y.args.length = yn at *
      subst yeq
      have hA1 : Below wr.heap.size wr (wr.alloc (.cells #[.int .i64 y.kind, .int .i64 y.code, .int .i64 y.mark, .string (bs y.inter), .slice ya yn yc, .string (bs y.text)] 35)) := (Below.refl _ _).alloc (Nat.le_refl _) _
      have HX1 := Hid.mk' (And.intro (show Sk w wr.heap.size y (.slice ya yn yc) (wr.alloc (.cells #[.int .i64 y.kind, .int .i64 y.code, .int .i64 y.mark, .string (bs y.inter), .slice ya yn yc, .string (bs y.text)] 35)) from ⟨Box.new wr 35 (acells y (.slice ya yn yc)), HB.out.trans (Below.mono hA1 HB.out.size), HB.out.size⟩) (And.intro (HI.out.below hA1) (HOO.out.below hA1)))
      have q0 := HX1.out.1.a.cell (j := 0) (v := .int .i64 y.kind) rfl
      have q1 := HX1.out.1.a.cell (j := 1) (v := .int .i64 y.code) rfl
      have q2 := HX1.out.1.a.cell (j := 2) (v := .int .i64 y.mark) rfl
      have q3 := HX1.out.1.a.cell (j := 3) (v := .string (bs y.inter)) rfl
      have q4 := HX1.out.1.a.cell (j := 4) (v := .slice ya yn yc) rfl
      have q5 := HX1.out.1.a.cell (j := 5) (v := .string (bs y.text)) rfl
      have HRY1 := Hid.mk' (HRY.out.below HX1.out.1.b)
      cases hw : wA y with
      | false =>
        have HQ := Hid.mk' (HNO2.out _ HRY1.out HX1.out.1.b hw)
        rw [hw, if_neg (by decide), List.append_nil] at HN
        clear HNO2 HOK2 hw HI HOO HB HRY HRY1 HLT
        go_wp2_with fail
        refine HQ.out.mono ?_
        rintro e w2 ⟨rfl, hb2⟩
        have HN2 := Hid.mk' (HN.out _ _ w2 (HX1.out.2.1.below hb2) ⟨oa, oc, oxs, rfl, oex0.out, HX1.out.2.2.below hb2, or0.out⟩ (HX1.out.1.b.trans (Below.mono hb2 HX1.out.1.b.size)))
        clear hb2 HX1 HQ HN q0 q1 q2 q3 q4 q5 p0 p1 p2 p3 p4 p5
        go_wp2
        go_roundw
        case rel => exact HN2.out
        case measure => simp [RowKit.intOf]; omega
      | true =>
        have HQ := Hid.mk' (HOK2.out _ HRY1.out HX1.out.1.b hw)
        have hwl : (wL y).length ≤ 2000 := wL_len ((wA_iff y).1 hw)
        rw [hw, if_pos rfl, runesB_app] at HN
        rw [show runesB [y] = wL y by unfold runesB; simp] at HN
        clear HNO2 HOK2 hw HI HOO HB HRY1
        generalize wL y = ly at *
        change Hid (Calls Tryd.prog 10 #[.agg #[.int .i64 y.kind, .int .i64 y.code, .int .i64 y.mark, .string (bs y.inter), .slice ya yn yc, .string (bs y.text)]] (wr.alloc (.cells #[.int .i64 y.kind, .int .i64 y.code, .int .i64 y.mark, .string (bs y.inter), .slice ya yn yc, .string (bs y.text)] 35)) fun e w' => ∃ v2, e = .returned (.tuple #[v2, .int .i64 0]) ∧ OwnI w' (wr.alloc (.cells #[.int .i64 y.kind, .int .i64 y.code, .int .i64 y.mark, .string (bs y.inter), .slice ya yn yc, .string (bs y.text)] 35)).heap.size v2 ly ∧ Below (wr.alloc (.cells #[.int .i64 y.kind, .int .i64 y.code, .int .i64 y.mark, .string (bs y.inter), .slice ya yn yc, .string (bs y.text)] 35)).heap.size (wr.alloc (.cells #[.int .i64 y.kind, .int .i64 y.code, .int .i64 y.mark, .string (bs y.inter), .slice ya yn yc, .string (bs y.text)] 35)) w') at HQ
        go_wp2_with fail
        refine HQ.out.mono ?_
        rintro e w2 ⟨tv, rfl, ht2, hb2⟩
        have HX2 := Hid.mk' (And.intro (show Sk w wr.heap.size y (.slice ya yn yc) w2 from ⟨HX1.out.1.a.later hb2, HX1.out.1.b.trans (Below.mono hb2 HX1.out.1.b.size), HX1.out.1.le⟩) (And.intro (HX1.out.2.1.below hb2) (And.intro (HX1.out.2.2.below hb2) (RdI.own ht2))))
        obtain ⟨ta, tc, tveq, _⟩ := RdI.own ht2
        subst tveq
        clear hb2 ht2 HX1 HQ q0 q1 q2 q3 q4 q5 p0 p1 p2 p3 p4 p5
        go_upto_region 8 with fail
        have hE : Sk w wr.heap.size y (.slice ya yn yc) w2.drew := ⟨HX2.out.1.a.drew, HX2.out.1.b.drew, HX2.out.1.le⟩
        have oi0 : Hid (OwnI w2.drew w.heap.size u3 (runesB G)) := HX2.out.2.1
        have oo0 : Hid (OwnA w2.drew w.heap.size oa oc oxs) := HX2.out.2.2.1
        have rt0 := Hid.mk' (show RdI w2.drew _ ly from HX2.out.2.2.2)
        generalize wr.heap.size = b6 at *
        clear HX2
        obtain ⟨al3, c3, e3⟩ := oi0.out.form
        subst e3
        have hlenA : oxs.length ≤ 1099511627776 := by
          have lox : oxs.length = G.length := by rw [← oex0.out]; simp
          omega
        have hlenI : (runesB G).length + ly.length ≤ 1000000000000 := by omega
        generalize hlr : (runesB G).length = lr at *
        refine wp_region_noPanic ?_
        refine wp_region_held_drew (S := fun w' => Sk w b6 y (.slice ya yn yc) w') (by kernel_rfl) hE (fun hHeld => ?_)
        generalize w2.drew = wd at *
        refine wpAnyH_take (i := 0) (oi := { dst := some 25, op := Go.Op.move (Go.Operand.tmp 3), type := 24, pos := _, after := #[], guard := none }) (v := .slice al3 lr c3) rfl (by kernel_rfl) (by kernel_rfl) (by kernel_rfl) (fun _ _ _ h => h) (Or.inl ⟨by rfl, fun w' hSw => ?_⟩) (by assumption) ?_
        · (try dsimp only at hSw); go_simp
        (try simp only [Act.put]); (try simp only [List.setIfInBounds_toArray]); (try simp only [List.set_cons_succ]); (try simp only [List.set_cons_zero])
        refine wpAnyH_take (i := 1) (oi := { dst := some 26, op := Go.Op.move (Go.Operand.tmp 7), type := 24, pos := _, after := #[], guard := none }) (v := .slice ta ly.length tc) rfl (by kernel_rfl) (by kernel_rfl) (by kernel_rfl) (fun _ _ _ h => h) (Or.inl ⟨by rfl, fun w' hSw => ?_⟩) (by assumption) ?_
        · (try dsimp only at hSw); go_simp
        (try simp only [Act.put]); (try simp only [List.setIfInBounds_toArray]); (try simp only [List.set_cons_succ]); (try simp only [List.set_cons_zero])
        refine wpAnyH_take (i := 3) (oi := { dst := some 28, op := Go.Op.move (Go.Operand.tmp 4), type := 25, pos := _, after := #[], guard := none }) (v := .slice oa oxs.length oc) rfl (by kernel_rfl) (by kernel_rfl) (by kernel_rfl) (fun _ _ _ h => h) (Or.inl ⟨by rfl, fun w' hSw => ?_⟩) (by assumption) ?_
        · (try dsimp only at hSw); go_simp
        (try simp only [Act.put]); (try simp only [List.setIfInBounds_toArray]); (try simp only [List.set_cons_succ]); (try simp only [List.set_cons_zero])
        refine wpAnyH_take (i := 4) (oi := { dst := some 29, op := Go.Op.load 35 (Go.Operand.tmp 6), type := 35, pos := _, after := #[], guard := none }) (v := .agg #[.int .i64 y.kind, .int .i64 y.code, .int .i64 y.mark, .string (bs y.inter), .slice ya yn yc, .string (bs y.text)]) rfl (by kernel_rfl) (by kernel_rfl) (by kernel_rfl) (fun _ _ _ h => h) (Or.inl ⟨by rfl, fun w' hSw => ?_⟩) (by assumption) ?_
        · exact (exec_loadA _ _ _ _ _ _ _ _ (hSw.a.lies0 rfl)).trans (congrArg (fun z : List Value => Result.ok (Next.value (.agg z.toArray)) w') (hSw.a.row0 rfl))
        (try simp only [Act.put]); (try simp only [List.setIfInBounds_toArray]); (try simp only [List.set_cons_succ]); (try simp only [List.set_cons_zero])
        refine wpAnyH_ready (rs := [2, 5]) (by kernel_rfl) (by simp) ?_
        refine AllReadyH.cons (o := { dst := some 27, op := Go.Op.call { callee := Go.Callee.builtin Go.Builtin.append, args := #[Go.Operand.tmp 25, Go.Operand.tmp 26], argTypes := #[24, 24] }, type := 24, pos := _, after := #[{ on := 0, ground := Go.Ground.data }, { on := 1, ground := Go.Ground.data }], guard := none }) rfl (fun K hK => ?_) ?_
        · skip
          refine step_append_own rfl _ _ rfl w.heap.size al3 lr c3 (runesB G) rfl oi0.out ta ly.length tc ly rfl rt0.out (by rw [hlr]; exact hlenI) (by have h1 := hE.b.size; exact h1) ?_
          intro al4 n4 cl4 v1 hn4 ho4 hB4 hK4
          have e1 : Sk w b6 y (.slice ya yn yc) v1 := ⟨hK4 _ _ _ _ (by decide) hE.a, hB4 _ _ (Nat.le_refl _) hE.b, hE.le⟩
          have oj1 := Hid.mk' ho4
          have oo2 := Hid.mk' (show OwnA v1 w.heap.size oa oc oxs from kept_own oo0.out (fun k cs fz hk => hK4 k cs _ fz (by decide) hk))
          clear hn4 ho4 hB4 hK4
          refine hK.out _ _ e1 (fun hHeld => ?_)
          clear hK K
          (try simp only [Act.put]); (try simp only [List.setIfInBounds_toArray]); (try simp only [List.set_cons_succ]); (try simp only [List.set_cons_zero])
          refine wpAnyH_ready (rs := [5]) (by kernel_rfl) (by simp) ?_
          refine AllReadyH.cons (o := { dst := some 30, op := Go.Op.buildSlice 25 1 #[(0, Go.Operand.tmp 29)], type := 25, pos := _, after := #[{ on := 4, ground := Go.Ground.data }], guard := none }) rfl (fun K hK => ?_) ?_
          · skip
            go_simp
            have hAl : Below v1.heap.size v1 (v1.alloc (.cells #[.int .i64 y.kind, .int .i64 y.code, .int .i64 y.mark, .string (bs y.inter), .slice ya yn yc, .string (bs y.text)] 35)) := (Below.refl _ _).alloc (Nat.le_refl _) _
            have e2 : Sk w b6 y (.slice ya yn yc) (v1.alloc (.cells #[.int .i64 y.kind, .int .i64 y.code, .int .i64 y.mark, .string (bs y.inter), .slice ya yn yc, .string (bs y.text)] 35)) := ⟨e1.a.later hAl, e1.b.trans (Below.mono hAl e1.b.size), e1.le⟩
            have oj3 := Hid.mk' (oj1.out.below hAl)
            have oo4 := Hid.mk' (oo2.out.below hAl)
            have bb5 := Hid.mk' (show Box (v1.alloc (.cells #[.int .i64 y.kind, .int .i64 y.code, .int .i64 y.mark, .string (bs y.inter), .slice ya yn yc, .string (bs y.text)] 35)) v1.heap.size 35 (acells y (.slice ya yn yc)) from Box.new v1 35 (acells y (.slice ya yn yc)))
            clear hAl
            refine hK.out _ _ e2 (fun hHeld => ?_)
            clear hK K
            (try simp only [Act.put]); (try simp only [List.setIfInBounds_toArray]); (try simp only [List.set_cons_succ]); (try simp only [List.set_cons_zero])
            refine wpAnyH_ready (rs := [6]) (by kernel_rfl) (by simp) ?_
            refine AllReadyH.cons (o := { dst := some 31, op := Go.Op.call { callee := Go.Callee.builtin Go.Builtin.append, args := #[Go.Operand.tmp 28, Go.Operand.tmp 30], argTypes := #[25, 25] }, type := 25, pos := _, after := #[{ on := 3, ground := Go.Ground.data }, { on := 5, ground := Go.Ground.data }, { on := 2, ground := Go.Ground.chain }], guard := none }) rfl (fun K hK => ?_) ?_
            · skip
              refine step_append_one rfl _ _ rfl w.heap.size oa oc oxs oxs.length rfl rfl oo4.out y (.slice ya yn yc) rfl v1.heap.size 1 rfl bb5.out e2.b.size hlenA ?_
              intro al5 cl5 n5 v3 hn5 ho5 hB5 hK5 hT5
              have e3 : Sk w b6 y (.slice ya yn yc) v3 := ⟨e2.a.kept (hK5 _ e2.a.lt (fun h => Nat.lt_irrefl _ (HLT.out _ h))), hB5 _ _ (Nat.le_refl _) e2.b, e2.le⟩
              have oj6 := Hid.mk' (show OwnI v3 w.heap.size (.slice al4 n4 cl4) (runesB G ++ ly) from kept_own oj3.out (fun k cs fz hk => hT5 k cs _ fz (by decide) hk))
              have ob7 := Hid.mk' (show Ob w w.heap.size v3 (.slice al5 n5 cl5) (G ++ [y]) from ⟨al5, cl5, oxs ++ [(y, .slice ya yn yc)], by rw [hn5.out], by rw [List.map_append, oex0.out]; rfl, ho5, fun x hx => (List.mem_append.1 hx).elim (or0.out x) (fun h => by rw [List.mem_singleton.1 h]; exact HRY.out)⟩)
              clear hn5 ho5 hB5 hK5 hT5
              refine hK.out _ _ e3 (fun hHeld => ?_)
              clear hK K
              (try simp only [Act.put]); (try simp only [List.setIfInBounds_toArray]); (try simp only [List.set_cons_succ]); (try simp only [List.set_cons_zero])
              refine wpAnyH_take (i := 7) (oi := { dst := some 3, op := Go.Op.assign (Go.Operand.tmp 27), type := 24, pos := _, after := #[{ on := 2, ground := Go.Ground.data }, { on := 6, ground := Go.Ground.chain }, { on := 0, ground := Go.Ground.phase }, { on := 1, ground := Go.Ground.phase }, { on := 2, ground := Go.Ground.phase }, { on := 3, ground := Go.Ground.textOnly Go.Departure.lateStores }, { on := 4, ground := Go.Ground.textOnly Go.Departure.lateStores }, { on := 5, ground := Go.Ground.textOnly Go.Departure.lateStores }, { on := 6, ground := Go.Ground.textOnly Go.Departure.lateStoresUnsure }], guard := none }) (v := .slice al4 n4 cl4) rfl (by kernel_rfl) (by kernel_rfl) (by kernel_rfl) (fun _ _ _ h => h) (Or.inl ⟨by rfl, fun w' hSw => ?_⟩) (by assumption) ?_
              · (try dsimp only at hSw); go_simp
              (try simp only [Act.put]); (try simp only [List.setIfInBounds_toArray]); (try simp only [List.set_cons_succ]); (try simp only [List.set_cons_zero])
              refine wpAnyH_take (i := 8) (oi := { dst := some 4, op := Go.Op.assign (Go.Operand.tmp 31), type := 25, pos := _, after := #[{ on := 6, ground := Go.Ground.data }, { on := 7, ground := Go.Ground.chain }, { on := 0, ground := Go.Ground.phase }, { on := 1, ground := Go.Ground.phase }, { on := 2, ground := Go.Ground.phase }, { on := 3, ground := Go.Ground.phase }, { on := 4, ground := Go.Ground.phase }, { on := 5, ground := Go.Ground.phase }, { on := 6, ground := Go.Ground.phase }, { on := 7, ground := Go.Ground.phase }], guard := none }) (v := .slice al5 n5 cl5) rfl (by kernel_rfl) (by kernel_rfl) (by kernel_rfl) (fun _ _ _ h => h) (Or.inl ⟨by rfl, fun w' hSw => ?_⟩) (by assumption) ?_
              · (try dsimp only at hSw); go_simp
              (try simp only [Act.put]); (try simp only [List.setIfInBounds_toArray]); (try simp only [List.set_cons_succ]); (try simp only [List.set_cons_zero])
              refine wpAnyH_done (by kernel_rfl) ?_ _
              refine NoPanic.normal ?_
              have HN2 := Hid.mk' (HN.out _ _ _ oj6.out ob7.out e3.b)
              clear e3 HN
              go_wp2_with fail
              go_roundw
              case rel => exact HN2.out
              case measure => simp [RowKit.intOf]; omega
            exact AllReadyH.nil
          exact AllReadyH.nil
        refine AllReadyH.cons (o := { dst := some 30, op := Go.Op.buildSlice 25 1 #[(0, Go.Operand.tmp 29)], type := 25, pos := _, after := #[{ on := 4, ground := Go.Ground.data }], guard := none }) rfl (fun K hK => ?_) ?_
        · skip
          go_simp
          have hAl : Below wd.heap.size wd (wd.alloc (.cells #[.int .i64 y.kind, .int .i64 y.code, .int .i64 y.mark, .string (bs y.inter), .slice ya yn yc, .string (bs y.text)] 35)) := (Below.refl _ _).alloc (Nat.le_refl _) _
          have e4 : Sk w b6 y (.slice ya yn yc) (wd.alloc (.cells #[.int .i64 y.kind, .int .i64 y.code, .int .i64 y.mark, .string (bs y.inter), .slice ya yn yc, .string (bs y.text)] 35)) := ⟨hE.a.later hAl, hE.b.trans (Below.mono hAl hE.b.size), hE.le⟩
          have oi8 := Hid.mk' (oi0.out.below hAl)
          have rt9 := Hid.mk' (rt0.out.below hAl)
          have oo10 := Hid.mk' (oo0.out.below hAl)
          have bb11 := Hid.mk' (show Box (wd.alloc (.cells #[.int .i64 y.kind, .int .i64 y.code, .int .i64 y.mark, .string (bs y.inter), .slice ya yn yc, .string (bs y.text)] 35)) wd.heap.size 35 (acells y (.slice ya yn yc)) from Box.new wd 35 (acells y (.slice ya yn yc)))
          clear hAl
          refine hK.out _ _ e4 (fun hHeld => ?_)
          clear hK K
          (try simp only [Act.put]); (try simp only [List.setIfInBounds_toArray]); (try simp only [List.set_cons_succ]); (try simp only [List.set_cons_zero])
          refine wpAnyH_ready (rs := [2]) (by kernel_rfl) (by simp) ?_
          refine AllReadyH.cons (o := { dst := some 27, op := Go.Op.call { callee := Go.Callee.builtin Go.Builtin.append, args := #[Go.Operand.tmp 25, Go.Operand.tmp 26], argTypes := #[24, 24] }, type := 24, pos := _, after := #[{ on := 0, ground := Go.Ground.data }, { on := 1, ground := Go.Ground.data }], guard := none }) rfl (fun K hK => ?_) ?_
          · skip
            refine step_append_own rfl _ _ rfl w.heap.size al3 lr c3 (runesB G) rfl oi8.out ta ly.length tc ly rfl rt9.out (by rw [hlr]; exact hlenI) (by have h1 := e4.b.size; exact h1) ?_
            intro al4 n4 cl4 v5 hn4 ho4 hB4 hK4
            have e5 : Sk w b6 y (.slice ya yn yc) v5 := ⟨hK4 _ _ _ _ (by decide) e4.a, hB4 _ _ (Nat.le_refl _) e4.b, e4.le⟩
            have oj12 := Hid.mk' ho4
            have oo13 := Hid.mk' (show OwnA v5 w.heap.size oa oc oxs from kept_own oo10.out (fun k cs fz hk => hK4 k cs _ fz (by decide) hk))
            have bb14 := Hid.mk' (show Box v5 wd.heap.size 35 (acells y (.slice ya yn yc)) from hK4 _ _ _ _ (by decide) bb11.out)
            clear hn4 ho4 hB4 hK4
            refine hK.out _ _ e5 (fun hHeld => ?_)
            clear hK K
            (try simp only [Act.put]); (try simp only [List.setIfInBounds_toArray]); (try simp only [List.set_cons_succ]); (try simp only [List.set_cons_zero])
            refine wpAnyH_ready (rs := [6]) (by kernel_rfl) (by simp) ?_
            refine AllReadyH.cons (o := { dst := some 31, op := Go.Op.call { callee := Go.Callee.builtin Go.Builtin.append, args := #[Go.Operand.tmp 28, Go.Operand.tmp 30], argTypes := #[25, 25] }, type := 25, pos := _, after := #[{ on := 3, ground := Go.Ground.data }, { on := 5, ground := Go.Ground.data }, { on := 2, ground := Go.Ground.chain }], guard := none }) rfl (fun K hK => ?_) ?_
            · skip
              refine step_append_one rfl _ _ rfl w.heap.size oa oc oxs oxs.length rfl rfl oo13.out y (.slice ya yn yc) rfl wd.heap.size 1 rfl bb14.out e5.b.size hlenA ?_
              intro al5 cl5 n5 v6 hn5 ho5 hB5 hK5 hT5
              have e6 : Sk w b6 y (.slice ya yn yc) v6 := ⟨e5.a.kept (hK5 _ e5.a.lt (fun h => Nat.lt_irrefl _ (HLT.out _ h))), hB5 _ _ (Nat.le_refl _) e5.b, e5.le⟩
              have oj15 := Hid.mk' (show OwnI v6 w.heap.size (.slice al4 n4 cl4) (runesB G ++ ly) from kept_own oj12.out (fun k cs fz hk => hT5 k cs _ fz (by decide) hk))
              have ob16 := Hid.mk' (show Ob w w.heap.size v6 (.slice al5 n5 cl5) (G ++ [y]) from ⟨al5, cl5, oxs ++ [(y, .slice ya yn yc)], by rw [hn5.out], by rw [List.map_append, oex0.out]; rfl, ho5, fun x hx => (List.mem_append.1 hx).elim (or0.out x) (fun h => by rw [List.mem_singleton.1 h]; exact HRY.out)⟩)
              clear hn5 ho5 hB5 hK5 hT5
              refine hK.out _ _ e6 (fun hHeld => ?_)
              clear hK K
              (try simp only [Act.put]); (try simp only [List.setIfInBounds_toArray]); (try simp only [List.set_cons_succ]); (try simp only [List.set_cons_zero])
              refine wpAnyH_take (i := 7) (oi := { dst := some 3, op := Go.Op.assign (Go.Operand.tmp 27), type := 24, pos := _, after := #[{ on := 2, ground := Go.Ground.data }, { on := 6, ground := Go.Ground.chain }, { on := 0, ground := Go.Ground.phase }, { on := 1, ground := Go.Ground.phase }, { on := 2, ground := Go.Ground.phase }, { on := 3, ground := Go.Ground.textOnly Go.Departure.lateStores }, { on := 4, ground := Go.Ground.textOnly Go.Departure.lateStores }, { on := 5, ground := Go.Ground.textOnly Go.Departure.lateStores }, { on := 6, ground := Go.Ground.textOnly Go.Departure.lateStoresUnsure }], guard := none }) (v := .slice al4 n4 cl4) rfl (by kernel_rfl) (by kernel_rfl) (by kernel_rfl) (fun _ _ _ h => h) (Or.inl ⟨by rfl, fun w' hSw => ?_⟩) (by assumption) ?_
              · (try dsimp only at hSw); go_simp
              (try simp only [Act.put]); (try simp only [List.setIfInBounds_toArray]); (try simp only [List.set_cons_succ]); (try simp only [List.set_cons_zero])
              refine wpAnyH_take (i := 8) (oi := { dst := some 4, op := Go.Op.assign (Go.Operand.tmp 31), type := 25, pos := _, after := #[{ on := 6, ground := Go.Ground.data }, { on := 7, ground := Go.Ground.chain }, { on := 0, ground := Go.Ground.phase }, { on := 1, ground := Go.Ground.phase }, { on := 2, ground := Go.Ground.phase }, { on := 3, ground := Go.Ground.phase }, { on := 4, ground := Go.Ground.phase }, { on := 5, ground := Go.Ground.phase }, { on := 6, ground := Go.Ground.phase }, { on := 7, ground := Go.Ground.phase }], guard := none }) (v := .slice al5 n5 cl5) rfl (by kernel_rfl) (by kernel_rfl) (by kernel_rfl) (fun _ _ _ h => h) (Or.inl ⟨by rfl, fun w' hSw => ?_⟩) (by assumption) ?_
              · (try dsimp only at hSw); go_simp
              (try simp only [Act.put]); (try simp only [List.setIfInBounds_toArray]); (try simp only [List.set_cons_succ]); (try simp only [List.set_cons_zero])
              refine wpAnyH_done (by kernel_rfl) ?_ _
              refine NoPanic.normal ?_
              have HN2 := Hid.mk' (HN.out _ _ _ oj15.out ob16.out e6.b)
              clear e6 HN
              go_wp2_with fail
              go_roundw
              case rel => exact HN2.out
              case measure => simp [RowKit.intOf]; omega
            exact AllReadyH.nil
          exact AllReadyH.nil
        exact AllReadyH.nil
    · obtain rfl : k = L.length := by omega
      have hgl := HGL.out L.length
      have hrl := HRL.out L.length
      have hlr : (runesB (good L L.length)).length ≤ 274877906944 := by omega
      have HSM2 : Hid (∀ y ∈ good L L.length, y.args.length ≤ 17592186044416) := by
        have h := HSM.out
        rw [HBA.out] at h
        exact h
      have HF := Hid.mk' (fun W (h : Below wr.heap.size wr W) => HFD.out u3 (runesB (good L L.length)) W ((RdI.own HI.out).below h) hlr)
      rw [HBA.out] at HF
      have hp0 : pcells p0 = [.int .i64 0, .int .i64 0, .string ⟨#[]⟩, .string ⟨#[]⟩, .string ⟨#[]⟩] := rfl
      rw [hp0] at HF
      clear HNO HOK HGN HGL HGO HRL HBA HFD HCM HSM hp0
      generalize good L L.length = G at *
      obtain ⟨ra, rc, re⟩ := HI.out.form
      subst re
      generalize (runesB G).length = rn at *
      go_wp2_with fail
      refine (HF.out _ (Below.refl _ _)).mono ?_
      rintro e w2 ⟨vl, rfl, hr2, hb2⟩
      have hA2 : Below w2.heap.size w2 (w2.alloc (.cells #[.int .i64 0, .int .i64 0, .string ⟨#[]⟩, .string ⟨#[]⟩, .string ⟨#[]⟩] 23)) := (Below.refl _ _).alloc (Nat.le_refl _) _
      have B2 := HB.out.trans (Below.mono hb2 HB.out.size)
      have HX2 := Hid.mk' (And.intro (Box.new w2 23 [.int .i64 0, .int .i64 0, .string ⟨#[]⟩, .string ⟨#[]⟩, .string ⟨#[]⟩]) (And.intro (hr2.below hA2) (And.intro ((HO.out.below hb2).below hA2) (B2.trans (Below.mono hA2 B2.size)))))
      clear hr2 hb2 hA2 B2 HF HI HO HB
      go_wp2_with fail
      refine (HLV.out _).mono ?_
      rintro e w3 ⟨rfl, hb3⟩
      have X3 := HX2.out.1.later hb3
      have d0 := X3.cell (j := 0) (v := .int .i64 0) rfl
      have d1 := X3.cell (j := 1) (v := .int .i64 0) rfl
      have d2 := X3.cell (j := 2) (v := .string ⟨#[]⟩) rfl
      have d3 := X3.cell (j := 3) (v := .string ⟨#[]⟩) rfl
      have d4 := X3.cell (j := 4) (v := .string ⟨#[]⟩) rfl
      have HB3 := Hid.mk' (HX2.out.2.2.2.trans (Below.mono hb3 HX2.out.2.2.2.size))
      have HSA := Hid.mk' (SameActs_same G vl u4 w3 (HX2.out.2.1.below hb3).rd ((HX2.out.2.2.1.below hb3).rd HB3.out) HSM2.out (by omega))
      clear hb3 X3 HX2 HLV HSM2
      go_wp2_with fail
      refine HSA.out.mono ?_
      rintro e w4 ⟨rfl, hb4⟩
      have HB4 := Hid.mk' (HB3.out.trans (Below.mono hb4 HB3.out.size))
      clear hb4 HSA HB3
      go_wp2
      go_ret
      exact ⟨rfl, HB4.out⟩
end Go.Proofs.YtneiiinheimglaaDoor.B
