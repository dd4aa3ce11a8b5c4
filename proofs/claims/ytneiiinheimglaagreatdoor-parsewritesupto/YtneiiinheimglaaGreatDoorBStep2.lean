/-
  Contract of farref.ParseStep: one rune, as the plain function has it, whatever it is; conditions: a right parser; the variable internal/bytealg.MaxLen holds an int.
-/
import Derived.Test.YtneiiinheimglaaGreatDoorBStep
import Derived.Test.YtneiiinheimglaaGreatDoorJ8
import Derived.Test.YtneiiinheimglaaGreatDoorJ1
namespace Go.Proofs.YtneiiinheimglaaGreatDoor.B
open Go.RowKit Go.Lib Go.Proofs.YtneiiinheimglaaGreatDoor Go.Proofs.YtneiiinheimglaaGreatDoor.W Go.Proofs.YtneiiinheimglaaGreatDoor.Q Go.Proofs.YtneiiinheimglaaGreatDoor.C Go.Proofs.YtneiiinheimglaaGreatDoor.Z

attribute [local go_sem ↓] exec_storeP
/-- what lives while the last region is walked -/
structure Sb (w : World) (b6 : Nat) (q : Ps) (W : World) : Prop where
  r : ∃ k, k.length = 5 ∧ Box W (w.heap.size + 1) 39 k
  q : Box W b6 39 (pcells q)
  b : Below w.heap.size w W
theorem box_keepA {W V : World} {b : Nat} {l : List Value} (h : Box W b 39 l) (hk : KeepA W V) : Box V b 39 l := hk _ _ _ _ (by decide) h
theorem Sb.app {w W V : World} {b6 : Nat} {q : Ps} (h : Sb w b6 q W) (hk : KeepA W V) (hb : ∀ B X, B ≤ w.heap.size + 1 + 1 → Below B X W → Below B X V) : Sb w b6 q V :=
  ⟨h.r.elim fun k hk2 => ⟨k, hk2.1, box_keepA hk2.2 hk⟩, box_keepA h.q hk, hb _ _ (by omega) h.b⟩
theorem Sb.put {w W : World} {b6 : Nat} {q : Ps} (h : Sb w b6 q W) (hne : w.heap.size + 1 < b6) (q2 : List Value) (hq : q2.length = 5) :
    Lies W (.pointer (some ⟨w.heap.size + 1, 0, none⟩)) 5 ∧ Sb w b6 q (Q.putAt W (.pointer (some ⟨w.heap.size + 1, 0, none⟩)) (.agg q2.toArray)) ∧ Box (Q.putAt W (.pointer (some ⟨w.heap.size + 1, 0, none⟩)) (.agg q2.toArray)) (w.heap.size + 1) 39 q2 ∧ KeepP W (Q.putAt W (.pointer (some ⟨w.heap.size + 1, 0, none⟩)) (.agg q2.toArray)) := by
  obtain ⟨k, hk, hr⟩ := h.r
  have hP := hr.putAt q2 (by rw [hk, hq])
  have ne : ∀ j, j ≠ w.heap.size + 1 → (Q.putAt W (.pointer (some ⟨w.heap.size + 1, 0, none⟩)) (.agg q2.toArray)).heap[j]? = W.heap[j]? := hP.other
  exact ⟨hr.lies0 hk, ⟨⟨q2, hq, hP.box⟩, h.q.kept (ne _ (by omega)), hP.below _ _ (Nat.le_succ _) h.b⟩, hP.box, KeepP.put hr hP.other⟩
theorem rd_made {V : World} {B : Nat} {ml : List Ac} {al : Option Addr} {cl n : Nat} {ys : List (Ac × Value)} (hn : Hid (n = ([(gone, Value.slice none 0 0)] ++ ys).length)) (hy : ys.map Prod.fst = ml) (ho : OwnA V B al cl ([(gone, Value.slice none 0 0)] ++ ys)) (hr : ∀ x ∈ ys, RdT V x.2 x.1.args) : RdAT V (.slice al n cl) (gone :: ml) := by
  have h := RdAT.ownA ho (fun x hx => by
    rcases List.mem_append.1 hx with h | h
    · rw [List.mem_singleton.1 h]; exact RdT.nil V
    · exact hr x h)
  rw [hn.out]
  rw [List.map_append, hy] at h
  exact h

set_option maxHeartbeats 32000000 in
set_option maxRecDepth 100000 in
theorem PStep_back (p : Ps) (hp : right p) (c m : Int) (hc : 0 ≤ c ∧ c ≤ 1114111) (h82 : what p.st (cls c) = 82) (q : Ps) (ml : List Ac) (hml : ml.length ≤ 2) (hstep : step p c = (q, gone :: ml)) (w : World) (HREC : Hid (∀ W, Below w.heap.size w W → Calls Tryz.prog 30 #[.agg #[.int .i64 1, .int .i64 0, .string ⟨#[]⟩, .string ⟨#[]⟩, .string ⟨#[]⟩], .int .i64 c] W fun e w' => ∃ v, e = .returned (.tuple #[.agg #[.int .i64 (q.st : Int), .int .i64 q.mark, .string (bs q.inter), .string (bs q.args), .string (bs q.text)], v]) ∧ RdAT w' v ml ∧ Below W.heap.size W w')) (hm : w.cell? ⟨2, 0, none⟩ = some (.int .i64 m)) :
    Calls Tryz.prog 30 #[.agg #[.int .i64 (p.st : Int), .int .i64 p.mark, .string (bs p.inter), .string (bs p.args), .string (bs p.text)], .int .i64 c] w fun e w' => ∃ v, e = .returned (.tuple #[.agg (pcells (step p c).1).toArray, v]) ∧ RdAT w' v (step p c).2 ∧ Below w.heap.size w w' := by
  rw [hstep]
  dsimp only
  have hsp := letters p.st (cls c) hp.st (cls_lt c)
  unfold spec at hsp
  have hsg := cls_cases c
  obtain ⟨r15, rget, rcase⟩ := row_facts p.st hp.st (cls c) (cls_lt c)
  obtain ⟨ii, il⟩ := idx_facts (cls c) (cls_lt c)
  have hil := hp.ilen
  have hal := hp.alen
  have htl := hp.tlen
  have z1 := C.bs_size p.inter
  have z2 := C.bs_size p.args
  have z3 := C.bs_size p.text
  have HBT := Hid.mk' (fun W => Between_any c 0 1114111 W)
  have hbtw : btw c 0 1114111 = true := decide_eq_true hc
  simp only [hbtw] at HBT
  have HST := Hid.mk' (fun W => stepTable_any p.st hp.st W)
  have HCS := Hid.mk' (fun W => class_any c W)
  have HIX := Hid.mk' (fun W => Tryz.strings_IndexByte ⟨#[120, 101, 98, 99, 105, 107, 100, 109, 91, 93, 92, 112, 102, 110, 117]⟩ (clsL (cls c) : Int) W)
  have HBY := Hid.mk' (fun h1 W => Bytes_small c hc.1 h1 W)
  have HRT := Hid.mk' (fun W => RuneText_any c W)
  have hmlB := World.block_lt_of_cell? _ _ hm
  have hTs : (bs (rowB p.st)).size = 15 := by rw [C.bs_size]; exact r15
  have hTg : ∀ h, ((bs (rowB p.st))[cls c]'h).toNat = (row p.st).getD (cls c) 46 := fun h => by
    have e := get_mk (rowB p.st) (cls c) (by rw [r15]; exact cls_lt c) h
    have e2 : (rowB p.st).getD (cls c) 0 = (rowB p.st)[cls c]'(by rw [r15]; exact cls_lt c) := by
      rw [List.getD_eq_getElem?_getD, List.getElem?_eq_getElem (by rw [r15]; exact cls_lt c)]; rfl
    rw [← rget, e2]
    exact congrArg UInt8.toNat e
  have HIB : Hid (∀ W, Calls Tryz.prog 48 #[.string ⟨#[120, 101, 98, 99, 105, 107, 100, 109, 91, 93, 92, 112, 102, 110, 117]⟩, .int .u8 (clsL (cls c) : Int)] W fun e w' => e = .returned (.int .i64 (cls c : Int)) ∧ w' = W) := fun W => by
    have h := HIX.out W
    rw [show (⟨#[120, 101, 98, 99, 105, 107, 100, 109, 91, 93, 92, 112, 102, 110, 117]⟩ : ByteArray).data.toList = [120, 101, 98, 99, 105, 107, 100, 109, 91, 93, 92, 112, 102, 110, 117] from rfl, ii] at h
    exact h
  have hk15 := cls_lt c
  clear HIX ii rget r15 hm hmlB hbtw hstep
  generalize (row p.st).getD (cls c) 46 = r0 at *
  generalize bs (rowB p.st) = T at *
  generalize what p.st (cls c) = L at *
  generalize clsL (cls c) = KL at *
  generalize cls c = k at *
  obtain ⟨b0, b1, b2, b3, bw⟩ := four w [.int .i64 (p.st : Int), .int .i64 p.mark, .string (bs p.inter), .string (bs p.args), .string (bs p.text)] [.int .i64 0, .int .i64 0, .string ⟨#[]⟩, .string ⟨#[]⟩, .string ⟨#[]⟩] [.int .i64 6, .int .i64 0, .int .i64 0, .string ⟨#[]⟩, .slice none 0 0, .string ⟨#[]⟩] [.int .i64 0, .int .i64 0, .string ⟨#[]⟩, .string ⟨#[]⟩, .string ⟨#[]⟩] 39 39 24 39
  go_enter Tryz.func30, Tryz.ntmps30
  go_wp2_with fail
  refine (HBT.out _).mono ?_
  rintro e w2 ⟨rfl, rfl⟩
  go_upto_if 21 with fail
  generalize hW4 : ((((w.alloc (.cells #[.int .i64 (p.st : Int), .int .i64 p.mark, .string (bs p.inter), .string (bs p.args), .string (bs p.text)] 39)).alloc (.cells #[.int .i64 0, .int .i64 0, .string ⟨#[]⟩, .string ⟨#[]⟩, .string ⟨#[]⟩] 39)).alloc (.cells #[.int .i64 6, .int .i64 0, .int .i64 0, .string ⟨#[]⟩, .slice none 0 0, .string ⟨#[]⟩] 24)).alloc (.cells #[.int .i64 0, .int .i64 0, .string ⟨#[]⟩, .string ⟨#[]⟩, .string ⟨#[]⟩] 39)) = w4 at *
  clear hW4 HBT
  have hz4 := b3.lt
  go_cut [8] (fun s8 wx => ∃ S8, s8 = .string S8 ∧ Hid (c < 128 → S8 = bs [sg c]) ∧ Hid (Below w4.heap.size w4 wx))
  case first =>
    by_cases h128 : c < 128
    · have HB := Hid.mk' (HBY.out h128 w4)
      clear HBY
      go_wp2_with fail
      refine HB.out.mono ?_
      rintro e w5 ⟨rfl, hb5⟩
      have HF := Hid.mk' hb5
      clear hb5
      go_wp2_with fail
      go_meet
      exact ⟨_, rfl, fun _ => rfl, HF.out⟩
    · go_wp2_with fail
      go_meet
      exact ⟨_, rfl, (fun h => by omega), Below.refl _ _⟩
  case rest =>
  obtain ⟨S8, rfl, HS8, HBC⟩ := hcut
  have HW := Hid.mk' (show Box wc w.heap.size 39 [.int .i64 (p.st : Int), .int .i64 p.mark, .string (bs p.inter), .string (bs p.args), .string (bs p.text)] ∧ Box wc (w.heap.size + 1) 39 [.int .i64 0, .int .i64 0, .string ⟨#[]⟩, .string ⟨#[]⟩, .string ⟨#[]⟩] ∧ Box wc (w.heap.size + 2) 24 [.int .i64 6, .int .i64 0, .int .i64 0, .string ⟨#[]⟩, .slice none 0 0, .string ⟨#[]⟩] ∧ Box wc (w.heap.size + 3) 39 [.int .i64 0, .int .i64 0, .string ⟨#[]⟩, .string ⟨#[]⟩, .string ⟨#[]⟩] ∧ Below w.heap.size w wc from ⟨b0.later HBC.out, b1.later HBC.out, b2.later HBC.out, b3.later HBC.out, bw.trans (Below.mono HBC.out (by omega))⟩)
  clear b0 b1 b2 b3 bw HBC HBY hz4
  have a0 := HW.out.1.cell (j := 0) (v := .int .i64 (p.st : Int)) rfl
  have a1 := HW.out.1.cell (j := 1) (v := .int .i64 p.mark) rfl
  have a2 := HW.out.1.cell (j := 2) (v := .string (bs p.inter)) rfl
  have a3 := HW.out.1.cell (j := 3) (v := .string (bs p.args)) rfl
  have a4 := HW.out.1.cell (j := 4) (v := .string (bs p.text)) rfl
  have y0 := HW.out.2.2.2.1.cell (j := 0) (v := .int .i64 0) rfl
  have y1 := HW.out.2.2.2.1.cell (j := 1) (v := .int .i64 0) rfl
  have y2 := HW.out.2.2.2.1.cell (j := 2) (v := .string ⟨#[]⟩) rfl
  have y3 := HW.out.2.2.2.1.cell (j := 3) (v := .string ⟨#[]⟩) rfl
  have y4 := HW.out.2.2.2.1.cell (j := 4) (v := .string ⟨#[]⟩) rfl
  have hk2 : (k : Int) < (T.size : Int) := by omega
  have hTr : ∀ h, ((T[k]'h).toNat : Int) = (r0 : Int) := fun h => by rw [hTg h]
  clear hTg
  have HSG := Hid.mk' hsg
  clear hsg hk15 il hc
  subst h82
  have hst8 : p.st = 8 ∨ p.st = 10 := by omega
  have hne0 : ((p.st : Int) == 0) = false := beq_false_of_ne (by omega)
  rcases rcase with ⟨h1, _, _⟩ | ⟨hr0, hne⟩
  · exact absurd h1 (by decide)
  subst hr0
  have hkk : k < T.size := by omega
  have hT2 : ((T[k]'hkk).toNat : Int) = 82 := hTr hkk
  have hml1 := Hid.mk' hml
  clear hTr hTs hne hsp hst8 HRT HSG HS8 hml
  have hHq : Holds (.agg #[.int .i64 (q.st : Int), .int .i64 q.mark, .string (bs q.inter), .string (bs q.args), .string (bs q.text)]) 5 := holds_p q
  go_wp2_with fail
  refine (HST.out _).mono ?_
  rintro e w5 ⟨rfl, rfl⟩
  go_wp2_with fail
  refine (HCS.out _).mono ?_
  rintro e w5 ⟨rfl, rfl⟩
  go_wp2_with fail
  refine (HIB.out _).mono ?_
  rintro e w5 ⟨rfl, rfl⟩
  go_wp2_with fail
  refine (HREC.out _ HW.out.2.2.2.2).mono ?_
  rintro e w6 ⟨lv, rfl, hr6, hb6⟩
  have hz6 := HW.out.2.2.2.1.lt
  have hz7 := hb6.size
  have bq := Box.new w6 39 [.int .i64 0, .int .i64 0, .string ⟨#[]⟩, .string ⟨#[]⟩, .string ⟨#[]⟩]
  have hL6 : Lies (w6.alloc (.cells #[.int .i64 0, .int .i64 0, .string ⟨#[]⟩, .string ⟨#[]⟩, .string ⟨#[]⟩] 39)) (.pointer (some ⟨w6.heap.size, 0, none⟩)) 5 := bq.lies0 rfl
  have hP6 := bq.putAt [.int .i64 (q.st : Int), .int .i64 q.mark, .string (bs q.inter), .string (bs q.args), .string (bs q.text)] rfl
  have hA6 : Below w6.heap.size w6 (w6.alloc (.cells #[.int .i64 0, .int .i64 0, .string ⟨#[]⟩, .string ⟨#[]⟩, .string ⟨#[]⟩] 39)) := (Below.refl _ _).alloc (Nat.le_refl _) _
  have hB6 := (hP6.below _ _ (Nat.le_refl _) hA6)
  have HX := Hid.mk' (And.intro (show Sb w w6.heap.size q _ from ⟨⟨_, rfl, (HW.out.2.1.later hb6).later hB6⟩, hP6.box, (HW.out.2.2.2.2.trans (Below.mono hb6 HW.out.2.2.2.2.size)).trans (Below.mono hB6 (Nat.le_trans HW.out.2.2.2.2.size hz7))⟩) (And.intro ((HW.out.2.2.1.later hb6).later hB6) (hr6.below hB6)))
  obtain ⟨la, lcp, lxs, lve, _⟩ := hr6
  subst lve
  have hne6 : w.heap.size + 1 < w6.heap.size := by omega
  clear HST HCS HIB HREC HW a0 a1 a2 a3 a4 y0 y1 y2 y3 y4 hb6 bq hP6 hA6 hB6 hz6 hz7
  go_upto_region 63 with fail
  generalize Q.putAt (w6.alloc (.cells #[.int .i64 0, .int .i64 0, .string ⟨#[]⟩, .string ⟨#[]⟩, .string ⟨#[]⟩] 39)) (.pointer (some ⟨w6.heap.size, 0, none⟩)) (.agg #[.int .i64 (q.st : Int), .int .i64 q.mark, .string (bs q.inter), .string (bs q.args), .string (bs q.text)]) = w7 at *
  have hE : Sb w w6.heap.size q w7.drew := ⟨HX.out.1.r.elim fun k hk => ⟨k, hk.1, hk.2.drew⟩, HX.out.1.q.drew, HX.out.1.b.drew⟩
  have d0 := Hid.mk' HX.out.2.1.drew
  have ra0 := Hid.mk' (show RdAT w7.drew _ ml from HX.out.2.2)
  have hHz : Holds (.agg #[.int .i64 0, .int .i64 0, .string ⟨#[]⟩, .string ⟨#[]⟩, .string ⟨#[]⟩]) 5 := holds_p p0
  generalize w6.heap.size = b6 at *
  clear hL6 HX
  refine wp_region_noPanic ?_
  refine wp_region_held_drew (S := fun w' => Sb w b6 q w') (by kernel_rfl) hE (fun hHeld => ?_)
  generalize w7.drew = wd at *
  refine wpAnyH_take (i := 0) (oi := { dst := some 166, op := Go.Op.load 39 (Go.Operand.tmp 11), type := 39, pos := _, after := #[], guard := none }) (v := .agg #[.int .i64 (q.st : Int), .int .i64 q.mark, .string (bs q.inter), .string (bs q.args), .string (bs q.text)]) rfl (by kernel_rfl) (by kernel_rfl) (by kernel_rfl) (fun _ _ _ h => h) (Or.inl ⟨by rfl, fun w' hSw => ?_⟩) (by assumption) ?_
  · exact (exec_loadP _ _ _ _ _ _ _ _ (hSw.q.lies0 rfl)).trans (congrArg (fun z : List Value => Result.ok (Next.value (.agg z.toArray)) w') (hSw.q.row0 rfl))
  (try simp only [Act.put]); (try simp only [List.setIfInBounds_toArray]); (try simp only [List.set_cons_succ]); (try simp only [List.set_cons_zero])
  refine wpAnyH_take (i := 1) (oi := { dst := some 167, op := Go.Op.move (Go.Operand.tmp 7), type := 40, pos := _, after := #[], guard := none }) (v := .slice (some ⟨w.heap.size + 1 + 1, 0, none⟩) 1 1) rfl (by kernel_rfl) (by kernel_rfl) (by kernel_rfl) (fun _ _ _ h => h) (Or.inl ⟨by rfl, fun w' hSw => ?_⟩) (by assumption) ?_
  · (try dsimp only at hSw); go_simp
  (try simp only [Act.put]); (try simp only [List.setIfInBounds_toArray]); (try simp only [List.set_cons_succ]); (try simp only [List.set_cons_zero])
  refine wpAnyH_take (i := 2) (oi := { dst := some 168, op := Go.Op.move (Go.Operand.tmp 12), type := 40, pos := _, after := #[], guard := none }) (v := .slice la ml.length lcp) rfl (by kernel_rfl) (by kernel_rfl) (by kernel_rfl) (fun _ _ _ h => h) (Or.inl ⟨by rfl, fun w' hSw => ?_⟩) (by assumption) ?_
  · (try dsimp only at hSw); go_simp
  (try simp only [Act.put]); (try simp only [List.setIfInBounds_toArray]); (try simp only [List.set_cons_succ]); (try simp only [List.set_cons_zero])
  refine wpAnyH_ready (rs := [3]) (by kernel_rfl) (by simp) ?_
  refine AllReadyH.cons (o := { dst := some 169, op := Go.Op.call { callee := Go.Callee.builtin Go.Builtin.append, args := #[Go.Operand.tmp 167, Go.Operand.tmp 168], argTypes := #[40, 40] }, type := 40, pos := _, after := #[{ on := 1, ground := Go.Ground.data }, { on := 2, ground := Go.Ground.data }], guard := none }) rfl (fun K hK => ?_) ?_
  · skip
    refine step_append_acts rfl _ _ rfl (w.heap.size + 1 + 1) (some ⟨w.heap.size + 1 + 1, 0, none⟩) 1 [(gone, .slice none 0 0)] ml 1 rfl rfl (OwnA.of_box d0.out (Nat.le_refl _)) _ rfl ra0.out (Nat.le_of_lt d0.out.lt) (by have := hml1.out; simp; omega) ?_
    intro al cl ys n4 v1 hn4 hys ho4 hr4 hkA hbV
    have e1 : Sb w b6 q v1 := hE.app hkA hbV
    have rd1 := Hid.mk' (rd_made hn4 hys ho4 hr4)
    clear hn4 hys ho4 hr4 hkA hbV
    refine hK.out _ _ e1 (fun hHeld => ?_)
    clear hK K
    (try simp only [Act.put]); (try simp only [List.setIfInBounds_toArray]); (try simp only [List.set_cons_succ]); (try simp only [List.set_cons_zero])
    refine wpAnyH_ready (rs := [4]) (by kernel_rfl) (by simp) ?_
    refine AllReadyH.cons (o := { dst := none, op := Go.Op.store 39 (Go.Operand.tmp 4) (Go.Operand.tmp 166), type := 0, pos := _, after := #[{ on := 0, ground := Go.Ground.data }, { on := 3, ground := Go.Ground.chain }, { on := 0, ground := Go.Ground.phase }, { on := 1, ground := Go.Ground.textOnly Go.Departure.lateStores }, { on := 2, ground := Go.Ground.textOnly Go.Departure.lateStores }, { on := 3, ground := Go.Ground.textOnly Go.Departure.lateStoresUnsure }], guard := none }) rfl (fun K hK => ?_) ?_
    · skip
      obtain ⟨hS5, e2, sB, sK⟩ := e1.put hne6 [.int .i64 (q.st : Int), .int .i64 q.mark, .string (bs q.inter), .string (bs q.args), .string (bs q.text)] rfl
      go_simp
      have bx2 := Hid.mk' sB
      have rd3 := Hid.mk' (rd1.out.keep sK)
      clear hS5 sB sK
      refine hK.out _ _ e2 (fun hHeld => ?_)
      clear hK K
      (try simp only [Act.put]); (try simp only [List.setIfInBounds_toArray]); (try simp only [List.set_cons_succ]); (try simp only [List.set_cons_zero])
      refine wpAnyH_take (i := 5) (oi := { dst := some 5, op := Go.Op.assign (Go.Operand.tmp 169), type := 40, pos := _, after := #[{ on := 3, ground := Go.Ground.data }, { on := 4, ground := Go.Ground.chain }, { on := 0, ground := Go.Ground.phase }, { on := 1, ground := Go.Ground.phase }, { on := 2, ground := Go.Ground.phase }, { on := 3, ground := Go.Ground.phase }, { on := 4, ground := Go.Ground.phase }], guard := none }) (v := .slice al n4 cl) rfl (by kernel_rfl) (by kernel_rfl) (by kernel_rfl) (fun _ _ _ h => h) (Or.inl ⟨by rfl, fun w' hSw => ?_⟩) (by assumption) ?_
      · (try dsimp only at hSw); go_simp
      (try simp only [Act.put]); (try simp only [List.setIfInBounds_toArray]); (try simp only [List.set_cons_succ]); (try simp only [List.set_cons_zero])
      refine wpAnyH_done (by kernel_rfl) ?_ _
      refine NoPanic.normal ?_
      have hbE := Hid.mk' e2.b
      clear e2
      go_wp2_with fail
      exact ret_box2 Tryz.results30 39 (pcells q) (w.heap.size + 1) _ Tryz.underlying39 rfl sizePs _ rfl rfl bx2.out rfl ⟨_, rfl, rd3.out, hbE.out⟩
    exact AllReadyH.nil
  exact AllReadyH.nil

theorem PStep_any (p : Ps) (hp : right p) (c m : Int) (w : World) (hm : w.cell? ⟨2, 0, none⟩ = some (.int .i64 m)) :
    Calls Tryz.prog 30 #[.agg #[.int .i64 (p.st : Int), .int .i64 p.mark, .string (bs p.inter), .string (bs p.args), .string (bs p.text)], .int .i64 c] w fun e w' => ∃ v, e = .returned (.tuple #[.agg (pcells (step p c).1).toArray, v]) ∧ RdAT w' v (step p c).2 ∧ Below w.heap.size w w' := by
  by_cases hc : c < 0 ∨ 1114111 < c
  · exact PStep_out p c hc w
  · have hc2 : 0 ≤ c ∧ c ≤ 1114111 := by omega
    by_cases h82 : what p.st (cls c) = 82
    · have h1 : ∀ k, k < 15 → what 1 k ≠ 82 := by decide +kernel
      have h2 : what (at' 1).st (cls c) ≠ 82 := h1 _ (cls_lt c)
      have hs : step p c = ((does (at' 1) c (what 1 (cls c))).1, gone :: (does (at' 1) c (what 1 (cls c))).2) := by unfold step; rw [if_neg hc, if_pos h82]
      have hs2 : step (at' 1) c = does (at' 1) c (what 1 (cls c)) := step_of hc2.1 hc2.2 rfl h2
      have hl := step_few (at' 1) c
      rw [hs2] at hl
      have HREC := Hid.mk' (fun W (h : Below w.heap.size w W) => PStep_low (at' 1) (right_at 1 (by decide) (by decide)) c m hc2 h2 W ((h.cell (p := ⟨2, 0, none⟩) (World.block_lt_of_cell? _ _ hm)).trans hm))
      rw [hs2] at HREC
      rw [hs]
      have := PStep_back p hp c m hc2 h82 _ _ hl hs w HREC hm
      rw [hs] at this
      exact this
    · exact PStep_low p hp c m hc2 h82 w hm
end Go.Proofs.YtneiiinheimglaaGreatDoor.B
