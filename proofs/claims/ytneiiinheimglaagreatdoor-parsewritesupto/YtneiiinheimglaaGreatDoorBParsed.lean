/-
  Contract of farref.Parsed: all runes, as the plain function has them; conditions: a right parser; at most 2^38 runes; the variable internal/bytealg.MaxLen holds an int.
-/
import Derived.Test.YtneiiinheimglaaGreatDoorBStep2
namespace Go.Proofs.YtneiiinheimglaaGreatDoor.B
open Go.RowKit Go.Lib Go.Proofs.YtneiiinheimglaaGreatDoor Go.Proofs.YtneiiinheimglaaGreatDoor.W Go.Proofs.YtneiiinheimglaaGreatDoor.Q Go.Proofs.YtneiiinheimglaaGreatDoor.C Go.Proofs.YtneiiinheimglaaGreatDoor.Z

attribute [local go_sem ↓] exec_storeP
/-- acts that a call owns -/
def Ow (base : Nat) (W : World) (v : Value) (L : List Ac) : Prop := ∃ ad cap xs, v = .slice ad xs.length cap ∧ xs.map Prod.fst = L ∧ OwnA W base ad cap xs ∧ ∀ x ∈ xs, RdT W x.2 x.1.args
theorem Ow.nil (base : Nat) (W : World) : Ow base W (.slice none 0 0) [] := ⟨none, 0, [], rfl, rfl, OwnA.nil _ _, fun _ h => by cases h⟩
theorem Ow.below {base : Nat} {W V : World} {v : Value} {L : List Ac} (h : Ow base W v L) (hb : Below W.heap.size W V) : Ow base V v L := by
  obtain ⟨ad, cap, xs, e, ex, ho, hr⟩ := h
  exact ⟨ad, cap, xs, e, ex, ho.below hb, fun x hx => (hr x hx).keep (KeepI.of hb)⟩
theorem Ow.put {base : Nat} {W V : World} {v : Value} {L : List Ac} (h : Ow base W v L) {b : Nat} {l : List Value} (hB : Box W b 39 l) (hb : b < base) (hw : ∀ k, k ≠ b → V.heap[k]? = W.heap[k]?) : Ow base V v L := by
  obtain ⟨ad, cap, xs, e, ex, ho, hr⟩ := h
  refine ⟨ad, cap, xs, e, ex, OwnR.keptAt ho (fun k hk => hw k ?_), fun x hx => (hr x hx).keep (fun k cs fz hk => KeepP.put hB hw k cs _ fz (by decide) hk)⟩
  have := (ho.lt k hk).1
  omega
theorem Ow.rd {base : Nat} {W : World} {v : Value} {L : List Ac} (h : Ow base W v L) : RdAT W v L := by
  obtain ⟨ad, cap, xs, e, ex, ho, hr⟩ := h
  rw [e, ← ex]
  exact RdAT.ownA ho hr
theorem Ow.app {base : Nat} {W V : World} {xs ys : List (Ac × Value)} {L ml : List Ac} {al : Option Addr} {cl n : Nat} (ex : xs.map Prod.fst = L) (hr : ∀ x ∈ xs, RdT W x.2 x.1.args) (hn : Hid (n = (xs ++ ys).length)) (hy : ys.map Prod.fst = ml) (ho : OwnA V base al cl (xs ++ ys)) (hr2 : ∀ x ∈ ys, RdT V x.2 x.1.args) (hk : KeepA W V) : Ow base V (.slice al n cl) (L ++ ml) :=
  ⟨al, cl, xs ++ ys, by rw [hn.out], by rw [List.map_append, ex, hy], ho, fun x hx => (List.mem_append.1 hx).elim (fun h => (hr x h).keep hk.ints) (fun h => hr2 x h)⟩
/-- what lives in the loop -/
structure Pd (w : World) (q : Ps) (L : List Ac) (v : Value) (W : World) : Prop where
  p : Box W w.heap.size 39 (pcells q)
  z : Box W (w.heap.size + 1) 39 [.int .i64 0, .int .i64 0, .string ⟨#[]⟩, .string ⟨#[]⟩, .string ⟨#[]⟩]
  o : Ow (w.heap.size + 1 + 1) W v L
  b : Below w.heap.size w W
def PState (w : World) (p : Ps) (l : List Int) (s6 s13 : Value) (W : World) : Prop := ∃ k : Nat, k ≤ l.length ∧ s13 = .int .i64 (k : Int) ∧ Hid (Pd w (run p (l.take k)).1 (run p (l.take k)).2 s6 W)
/-- what lives while its region is walked -/
structure Sp (w : World) (b6 : Nat) (q : Ps) (W : World) : Prop where
  p : ∃ k, k.length = 5 ∧ Box W w.heap.size 39 k
  z : Box W (w.heap.size + 1) 39 [.int .i64 0, .int .i64 0, .string ⟨#[]⟩, .string ⟨#[]⟩, .string ⟨#[]⟩]
  q : Box W b6 39 (pcells q)
  b : Below w.heap.size w W
theorem Sp.app {w W V : World} {b6 : Nat} {q : Ps} (h : Sp w b6 q W) (hk : KeepA W V) (hb : ∀ B X, B ≤ w.heap.size + 1 + 1 → Below B X W → Below B X V) : Sp w b6 q V :=
  ⟨h.p.elim fun k hk2 => ⟨k, hk2.1, box_keepA hk2.2 hk⟩, box_keepA h.z hk, box_keepA h.q hk, hb _ _ (by omega) h.b⟩
theorem Sp.put {w W : World} {b6 : Nat} {q : Ps} (h : Sp w b6 q W) (hne : w.heap.size + 1 < b6) (q2 : List Value) (hq : q2.length = 5) :
    Lies W (.pointer (some ⟨w.heap.size, 0, none⟩)) 5 ∧ Sp w b6 q (Q.putAt W (.pointer (some ⟨w.heap.size, 0, none⟩)) (.agg q2.toArray)) ∧ Box (Q.putAt W (.pointer (some ⟨w.heap.size, 0, none⟩)) (.agg q2.toArray)) w.heap.size 39 q2 ∧ (∃ k, Box W w.heap.size 39 k ∧ ∀ j, j ≠ w.heap.size → (Q.putAt W (.pointer (some ⟨w.heap.size, 0, none⟩)) (.agg q2.toArray)).heap[j]? = W.heap[j]?) := by
  obtain ⟨k, hk, hr⟩ := h.p
  have hP := hr.putAt q2 (by rw [hk, hq])
  have ne : ∀ j, j ≠ w.heap.size → (Q.putAt W (.pointer (some ⟨w.heap.size, 0, none⟩)) (.agg q2.toArray)).heap[j]? = W.heap[j]? := hP.other
  exact ⟨hr.lies0 hk, ⟨⟨q2, hq, hP.box⟩, h.z.kept (ne _ (by omega)), h.q.kept (ne _ (by omega)), hP.below _ _ (Nat.le_refl _) h.b⟩, hP.box, k, hr, ne⟩
set_option maxHeartbeats 8000000 in
set_option maxRecDepth 100000 in
theorem Parsed_any (p : Ps) (hp : right p) (m : Int) (v : Value) (l : List Int) (w : World) (hv : RdI w v l) (hl : l.length ≤ 274877906944) (hm : w.cell? ⟨2, 0, none⟩ = some (.int .i64 m)) :
    Calls Tryz.prog 13 #[.agg #[.int .i64 (p.st : Int), .int .i64 p.mark, .string (bs p.inter), .string (bs p.args), .string (bs p.text)], v] w fun e w' => ∃ v2, e = .returned (.tuple #[.agg (pcells (run p l).1).toArray, v2]) ∧ RdAT w' v2 (run p l).2 ∧ Below w.heap.size w w' := by
  have hb0 := (Box.new w 39 [.int .i64 (p.st : Int), .int .i64 p.mark, .string (bs p.inter), .string (bs p.args), .string (bs p.text)]).alloc (.cells #[.int .i64 0, .int .i64 0, .string ⟨#[]⟩, .string ⟨#[]⟩, .string ⟨#[]⟩] 39)
  have hb1 := Box.new (w.alloc (.cells #[.int .i64 (p.st : Int), .int .i64 p.mark, .string (bs p.inter), .string (bs p.args), .string (bs p.text)] 39)) 39 [.int .i64 0, .int .i64 0, .string ⟨#[]⟩, .string ⟨#[]⟩, .string ⟨#[]⟩]
  rw [World.size_alloc] at hb1
  have hW0 : Below w.heap.size w ((w.alloc (.cells #[.int .i64 (p.st : Int), .int .i64 p.mark, .string (bs p.inter), .string (bs p.args), .string (bs p.text)] 39)).alloc (.cells #[.int .i64 0, .int .i64 0, .string ⟨#[]⟩, .string ⟨#[]⟩, .string ⟨#[]⟩] 39)) := ((Below.refl _ _).alloc (Nat.le_refl _) _).alloc (by simp) _
  have HS : Hid (PState w p l (.slice none 0 0) (.int .i64 0) ((w.alloc (.cells #[.int .i64 (p.st : Int), .int .i64 p.mark, .string (bs p.inter), .string (bs p.args), .string (bs p.text)] 39)).alloc (.cells #[.int .i64 0, .int .i64 0, .string ⟨#[]⟩, .string ⟨#[]⟩, .string ⟨#[]⟩] 39))) :=
    ⟨0, Nat.zero_le _, rfl, hb0, hb1, Ow.nil _ _, hW0⟩
  have HST := Hid.mk' (fun q (hq : right q) c W (h : Below w.heap.size w W) => PStep_any q hq c m W ((h.cell (p := ⟨2, 0, none⟩) (World.block_lt_of_cell? _ _ hm)).trans hm))
  have HR := Hid.mk' (fun k => run_right (l.take k) hp)
  have HL := Hid.mk' (fun k => run_few (l.take k) p)
  obtain ⟨a, cap, rfl, hc, hv⟩ := hv
  have HCE : Hid (∀ k (h : k < l.length), ∃ g off, a = some ⟨g, off, none⟩ ∧ ∀ W, Below w.heap.size w W → W.cell? ⟨g, off + k, none⟩ = some (.int .i64 l[k])) := fun k h => by
    rcases hv with h0 | ⟨g, off, e, hcl, hg⟩
    · subst h0; simp at h
    · exact ⟨g, off, e, fun W hW => (hW.cell (p := ⟨g, off + k, none⟩) hg).trans (hcl k h)⟩
  have HE : Hid (∀ v2 W, Pd w (run p (l.take l.length)).1 (run p (l.take l.length)).2 v2 W → Pd w (run p l).1 (run p l).2 v2 W) := fun v2 W h1 => by
    rw [List.take_length] at h1
    exact h1
  clear hb0 hb1 hW0 hv hp hm
  go_enter Tryz.func13, Tryz.ntmps13
  go_wp2_with fail
  go_loopw [6, 13] (fun s6 s13 wr => PState w p l s6 s13 wr) (fun _ i _ => l.length - (RowKit.intOf i).toNat)
  case atStart => exact HS.out
  case round =>
    obtain ⟨k, hk, rfl, HP⟩ := hrel
    clear HS
    have hz1 := HP.out.z.lt
    by_cases hlt : k < l.length
    · obtain ⟨g, off, ha, hcl⟩ := HCE.out k hlt
      subst ha
      have hcell := hcl wr HP.out.b
      have HN : Hid (∀ u W, Pd w (step (run p (l.take k)).1 l[k]).1 ((run p (l.take k)).2 ++ (step (run p (l.take k)).1 l[k]).2) u W → PState w p l u (.int .i64 ((k : Int) + 1)) W) := fun u W h =>
        ⟨k + 1, by omega, by simp, by rw [Hid, run_take p l k hlt]; exact h⟩
      have hlen0 : (run p (l.take k)).2.length + 2 ≤ 1099511627776 := by
        have h1 := HL.out k
        have h2 := List.length_take_le' k l
        omega
      have hfew := step_few (run p (l.take k)).1 l[k]
      have HS2 := Hid.mk' (HST.out _ (HR.out k) l[k] wr HP.out.b)
      clear HCE HE HL HR HST hcl
      generalize l[k] = c at *
      generalize step (run p (l.take k)).1 c = Y at *
      generalize run p (l.take k) = Z at *
      obtain ⟨Z1, L⟩ := Z
      obtain ⟨q, ml⟩ := Y
      dsimp only at *
      simp only [pcells] at HS2
      have d0 := HP.out.p.cell (j := 0) (v := .int .i64 (Z1.st : Int)) rfl
      have d1 := HP.out.p.cell (j := 1) (v := .int .i64 Z1.mark) rfl
      have d2 := HP.out.p.cell (j := 2) (v := .string (bs Z1.inter)) rfl
      have d3 := HP.out.p.cell (j := 3) (v := .string (bs Z1.args)) rfl
      have d4 := HP.out.p.cell (j := 4) (v := .string (bs Z1.text)) rfl
      have hHq : Holds (.agg #[.int .i64 (q.st : Int), .int .i64 q.mark, .string (bs q.inter), .string (bs q.args), .string (bs q.text)]) 5 := holds_p q
      go_wp2_with fail
      refine HS2.out.mono ?_
      rintro e w6 ⟨lv, rfl, hr6, hb6⟩
      have hz7 := hb6.size
      have bq := Box.new w6 39 [.int .i64 0, .int .i64 0, .string ⟨#[]⟩, .string ⟨#[]⟩, .string ⟨#[]⟩]
      have hL6 : Lies (w6.alloc (.cells #[.int .i64 0, .int .i64 0, .string ⟨#[]⟩, .string ⟨#[]⟩, .string ⟨#[]⟩] 39)) (.pointer (some ⟨w6.heap.size, 0, none⟩)) 5 := bq.lies0 rfl
      have hP6 := bq.putAt [.int .i64 (q.st : Int), .int .i64 q.mark, .string (bs q.inter), .string (bs q.args), .string (bs q.text)] rfl
      have hA6 : Below w6.heap.size w6 (w6.alloc (.cells #[.int .i64 0, .int .i64 0, .string ⟨#[]⟩, .string ⟨#[]⟩, .string ⟨#[]⟩] 39)) := (Below.refl _ _).alloc (Nat.le_refl _) _
      have hB6 := (hP6.below _ _ (Nat.le_refl _) hA6)
      have HX := Hid.mk' (And.intro (show Sp w w6.heap.size q _ from ⟨⟨_, rfl, (HP.out.p.later hb6).later hB6⟩, (HP.out.z.later hb6).later hB6, hP6.box, (HP.out.b.trans (Below.mono hb6 HP.out.b.size)).trans (Below.mono hB6 (Nat.le_trans HP.out.b.size hz7))⟩) (And.intro ((HP.out.o.below hb6).below hB6) (hr6.below hB6)))
      obtain ⟨la, lcp, lxs, lve, _⟩ := hr6
      subst lve
      have hne6 : w.heap.size + 1 < w6.heap.size := by omega
      clear HS2 HP d0 d1 d2 d3 d4 hb6 bq hP6 hA6 hB6 hz7
      go_upto_region 6 with fail
      generalize Q.putAt (w6.alloc (.cells #[.int .i64 0, .int .i64 0, .string ⟨#[]⟩, .string ⟨#[]⟩, .string ⟨#[]⟩] 39)) (.pointer (some ⟨w6.heap.size, 0, none⟩)) (.agg #[.int .i64 (q.st : Int), .int .i64 q.mark, .string (bs q.inter), .string (bs q.args), .string (bs q.text)]) = w7 at *
      have hE : Sp w w6.heap.size q w7.drew := ⟨HX.out.1.p.elim fun k hk => ⟨k, hk.1, hk.2.drew⟩, HX.out.1.z.drew, HX.out.1.q.drew, HX.out.1.b.drew⟩
      have o0 : Hid (Ow (w.heap.size + 1 + 1) w7.drew u6 L) := HX.out.2.1
      have ra0 := Hid.mk' (show RdAT w7.drew _ ml from HX.out.2.2)
      generalize w6.heap.size = b6 at *
      clear hL6 HX hcell
      obtain ⟨oa, oc, oxs, rfl, oex, oo, orr⟩ := o0
      have hlen : oxs.length + ml.length ≤ 1099511627776 := by
        have h1 : oxs.length = L.length := by rw [← oex]; simp
        omega
      have oo0 := Hid.mk' oo
      have or0 := Hid.mk' orr
      have oex0 := Hid.mk' oex
      clear oo orr oex hfew hlen0
      refine wp_region_noPanic ?_
      refine wp_region_held_drew (S := fun w' => Sp w b6 q w') (by kernel_rfl) hE (fun hHeld => ?_)
      generalize w7.drew = wd at *
      refine wpAnyH_take (i := 0) (oi := { dst := some 23, op := Go.Op.load 39 (Go.Operand.tmp 9), type := 39, pos := _, after := #[], guard := none }) (v := .agg #[.int .i64 (q.st : Int), .int .i64 q.mark, .string (bs q.inter), .string (bs q.args), .string (bs q.text)]) rfl (by kernel_rfl) (by kernel_rfl) (by kernel_rfl) (fun _ _ _ h => h) (Or.inl ⟨by rfl, fun w' hSw => ?_⟩) (by assumption) ?_
      · exact (exec_loadP _ _ _ _ _ _ _ _ (hSw.q.lies0 rfl)).trans (congrArg (fun z : List Value => Result.ok (Next.value (.agg z.toArray)) w') (hSw.q.row0 rfl))
      (try simp only [Act.put]); (try simp only [List.setIfInBounds_toArray]); (try simp only [List.set_cons_succ]); (try simp only [List.set_cons_zero])
      refine wpAnyH_take (i := 1) (oi := { dst := some 24, op := Go.Op.move (Go.Operand.tmp 6), type := 40, pos := _, after := #[], guard := none }) (v := .slice oa oxs.length oc) rfl (by kernel_rfl) (by kernel_rfl) (by kernel_rfl) (fun _ _ _ h => h) (Or.inl ⟨by rfl, fun w' hSw => ?_⟩) (by assumption) ?_
      · (try dsimp only at hSw); go_simp
      (try simp only [Act.put]); (try simp only [List.setIfInBounds_toArray]); (try simp only [List.set_cons_succ]); (try simp only [List.set_cons_zero])
      refine wpAnyH_take (i := 2) (oi := { dst := some 25, op := Go.Op.move (Go.Operand.tmp 10), type := 40, pos := _, after := #[], guard := none }) (v := .slice la ml.length lcp) rfl (by kernel_rfl) (by kernel_rfl) (by kernel_rfl) (fun _ _ _ h => h) (Or.inl ⟨by rfl, fun w' hSw => ?_⟩) (by assumption) ?_
      · (try dsimp only at hSw); go_simp
      (try simp only [Act.put]); (try simp only [List.setIfInBounds_toArray]); (try simp only [List.set_cons_succ]); (try simp only [List.set_cons_zero])
      refine wpAnyH_ready (rs := [3]) (by kernel_rfl) (by simp) ?_
      refine AllReadyH.cons (o := { dst := some 26, op := Go.Op.call { callee := Go.Callee.builtin Go.Builtin.append, args := #[Go.Operand.tmp 24, Go.Operand.tmp 25], argTypes := #[40, 40] }, type := 40, pos := _, after := #[{ on := 1, ground := Go.Ground.data }, { on := 2, ground := Go.Ground.data }], guard := none }) rfl (fun K hK => ?_) ?_
      · skip
        refine step_append_acts rfl _ _ rfl (w.heap.size + 1 + 1) oa oc oxs ml oxs.length rfl rfl oo0.out _ rfl ra0.out (by have h1 := hE.q.lt; omega) hlen ?_
        intro al cl ys n4 v1 hn4 hys ho4 hr4 hkA hbV
        have e1 : Sp w b6 q v1 := hE.app hkA hbV
        have ow1 := Hid.mk' (Ow.app oex0.out or0.out hn4 hys ho4 hr4 hkA)
        clear hn4 hys ho4 hr4 hkA hbV
        refine hK.out _ _ e1 (fun hHeld => ?_)
        clear hK K
        (try simp only [Act.put]); (try simp only [List.setIfInBounds_toArray]); (try simp only [List.set_cons_succ]); (try simp only [List.set_cons_zero])
        refine wpAnyH_ready (rs := [4]) (by kernel_rfl) (by simp) ?_
        refine AllReadyH.cons (o := { dst := none, op := Go.Op.store 39 (Go.Operand.tmp 2) (Go.Operand.tmp 23), type := 0, pos := _, after := #[{ on := 0, ground := Go.Ground.data }, { on := 3, ground := Go.Ground.chain }, { on := 0, ground := Go.Ground.phase }, { on := 1, ground := Go.Ground.textOnly Go.Departure.lateStores }, { on := 2, ground := Go.Ground.textOnly Go.Departure.lateStores }, { on := 3, ground := Go.Ground.textOnly Go.Departure.lateStoresUnsure }], guard := none }) rfl (fun K hK => ?_) ?_
        · skip
          obtain ⟨hS5, e2, sB, sk, sP, sO⟩ := e1.put hne6 [.int .i64 (q.st : Int), .int .i64 q.mark, .string (bs q.inter), .string (bs q.args), .string (bs q.text)] rfl
          go_simp
          have bx2 := Hid.mk' sB
          have ow3 := Hid.mk' (ow1.out.put sP (Nat.lt_succ_of_lt (Nat.lt_succ_self _)) sO)
          clear hS5 sB sP sO
          refine hK.out _ _ e2 (fun hHeld => ?_)
          clear hK K
          (try simp only [Act.put]); (try simp only [List.setIfInBounds_toArray]); (try simp only [List.set_cons_succ]); (try simp only [List.set_cons_zero])
          refine wpAnyH_take (i := 5) (oi := { dst := some 6, op := Go.Op.assign (Go.Operand.tmp 26), type := 40, pos := _, after := #[{ on := 3, ground := Go.Ground.data }, { on := 4, ground := Go.Ground.chain }, { on := 0, ground := Go.Ground.phase }, { on := 1, ground := Go.Ground.phase }, { on := 2, ground := Go.Ground.phase }, { on := 3, ground := Go.Ground.phase }, { on := 4, ground := Go.Ground.phase }], guard := none }) (v := .slice al n4 cl) rfl (by kernel_rfl) (by kernel_rfl) (by kernel_rfl) (fun _ _ _ h => h) (Or.inl ⟨by rfl, fun w' hSw => ?_⟩) (by assumption) ?_
          · (try dsimp only at hSw); go_simp
          (try simp only [Act.put]); (try simp only [List.setIfInBounds_toArray]); (try simp only [List.set_cons_succ]); (try simp only [List.set_cons_zero])
          refine wpAnyH_done (by kernel_rfl) ?_ _
          refine NoPanic.normal ?_
          have HN2 := Hid.mk' (HN.out _ _ ⟨bx2.out, e2.z, ow3.out, e2.b⟩)
          clear e2 HN
          go_wp2_with fail
          go_roundw
          case rel => exact HN2.out
          case measure => simp [RowKit.intOf]; omega
        exact AllReadyH.nil
      exact AllReadyH.nil
    · obtain rfl : k = l.length := by omega
      have H2 := Hid.mk' (HE.out _ wr HP.out)
      clear HCE HE HL HR HST HP
      obtain ⟨q, hq⟩ : ∃ q, q = (run p l).1 := ⟨_, rfl⟩
      rw [← hq] at H2
      have HQ := Hid.mk' hq
      clear hq
      have d0 := H2.out.p.cell (j := 0) (v := .int .i64 (q.st : Int)) rfl
      have d1 := H2.out.p.cell (j := 1) (v := .int .i64 q.mark) rfl
      have d2 := H2.out.p.cell (j := 2) (v := .string (bs q.inter)) rfl
      have d3 := H2.out.p.cell (j := 3) (v := .string (bs q.args)) rfl
      have d4 := H2.out.p.cell (j := 4) (v := .string (bs q.text)) rfl
      have hHq : Holds (.agg #[.int .i64 (q.st : Int), .int .i64 q.mark, .string (bs q.inter), .string (bs q.args), .string (bs q.text)]) 5 := holds_p q
      have hL1 := H2.out.z.lies0 (n := 5) rfl
      have HF := Hid.mk' (ps_fin (w := w) H2.out.z rfl (Nat.le_succ _) H2.out.b H2.out.o.rd q)
      go_wp2
      exact ret_box2 Tryz.results13 39 (pcells q) (w.heap.size + 1) _ Tryz.underlying39 rfl sizePs _ rfl rfl HF.out.1 rfl ⟨_, by rw [← HQ.out]; rfl, HF.out.2.1, HF.out.2.2⟩
end Go.Proofs.YtneiiinheimglaaGreatDoor.B
