/-
  Contract of farref.ParseStep: one rune, as the plain function has it; conditions: texts of at most 1048576 bytes; the variable internal/bytealg.MaxLen holds an int.
-/
import Derived.Test.YtneiiinheimglaaGreatDoorJ6
import Derived.Deep.DeepCutAuto
namespace Go.Proofs.YtneiiinheimglaaGreatDoor.B
open Go.RowKit Go.Lib Go.Proofs.YtneiiinheimglaaGreatDoor Go.Proofs.YtneiiinheimglaaGreatDoor.W Go.Proofs.YtneiiinheimglaaGreatDoor.Q Go.Proofs.YtneiiinheimglaaGreatDoor.C Go.Proofs.YtneiiinheimglaaGreatDoor.Z

attribute [local go_sem ↓] exec_storeP
section
variable {P : Program}
/-- a result that lies in a block, and one more -/
theorem ret_box2 {fn : Func} {R : Ending → World → Prop} {p p1 : Tmp} {ty : TypeId} (h : fn.results = #[.cell p ty, .tmp p1]) {a : Act} {w : World} (t : TypeId) (l : List Value) (b : Nat) (d : TypeDesc) (hu : P.underlying ty = some d) (hd : d.isRow = true) (hi : (P.info? ty).map (·.size) = some l.length)
    (v1 : Value) (hp : a.tmps[p]? = some (.pointer (some ⟨b, 0, none⟩))) (hp1 : a.tmps[p1]? = some v1) (hB : Box w b t l) (h0 : a.defers = []) (hR : R (.returned (.tuple #[.agg l.toArray, v1])) w) : bodyPost P fn R .ret a w := by
  refine bodyPost_ret (v := .tuple #[.agg l.toArray, v1]) ?_ h0 hR
  simp [results, h, hp, hp1, asAddr, loadVar_box w ty t l b d hu hd hi hB]
end
theorem holds_p (q : Ps) : Holds (.agg (pcells q).toArray) 5 := ⟨pcells q, rfl, rfl, by
  intro u hu
  simp only [pcells, List.mem_cons, List.mem_nil_iff, or_false] at hu
  rcases hu with rfl | rfl | rfl | rfl | rfl <;> rfl⟩
/-- a slice of one act just laid -/
theorem one_act (w : World) (y : Ac) (v : Value) (hv : RdT w v y.args) : RdAT (w.alloc (.cells (acells y v).toArray 24)) (.slice (some ⟨w.heap.size, 0, none⟩) 1 1) [y] := by
  refine ⟨_, 1, [(y, v)], rfl, Nat.le_refl _, rfl, fun x hx => ?_, .inr ⟨w.heap.size, (acells y v).toArray, (0, 0), rfl, Box.new _ _ _, fun j u hu => ?_⟩⟩
  · rw [List.mem_singleton.1 hx]
    exact hv.keep ((KeepI.refl w).alloc _)
  · simpa [asC] using hu
theorem box_act {w : World} {b : Nat} {y : Ac} {v : Value} (h : Box w b 24 (acells y v)) (hv : RdT w v y.args) : RdAT w (.slice (some ⟨b, 0, none⟩) 1 1) [y] := by
  refine ⟨_, 1, [(y, v)], rfl, Nat.le_refl _, rfl, fun x hx => ?_, .inr ⟨b, (acells y v).toArray, (0, 0), rfl, h, fun j u hu => ?_⟩⟩
  · rw [List.mem_singleton.1 hx]; exact hv
  · simpa [asC] using hu
theorem box_set {w : World} {b b' j : Nat} {t : TypeId} {l : List Value} {v : Value} (h : Box w b t l) (hne : b ≠ b') : Box (w.setCell ⟨b', j, none⟩ v) b t l := h.kept (setCell_other w b' j v hne)
theorem bs_app (a b : List UInt8) : bs a ++ bs b = bs (a ++ b) := bytes_append a b
theorem four (w : World) (a b c d : List Value) (ta tb tc td : TypeId) : Box ((((w.alloc (.cells a.toArray ta)).alloc (.cells b.toArray tb)).alloc (.cells c.toArray tc)).alloc (.cells d.toArray td)) w.heap.size ta a ∧ Box ((((w.alloc (.cells a.toArray ta)).alloc (.cells b.toArray tb)).alloc (.cells c.toArray tc)).alloc (.cells d.toArray td)) (w.heap.size + 1) tb b ∧ Box ((((w.alloc (.cells a.toArray ta)).alloc (.cells b.toArray tb)).alloc (.cells c.toArray tc)).alloc (.cells d.toArray td)) (w.heap.size + 2) tc c ∧ Box ((((w.alloc (.cells a.toArray ta)).alloc (.cells b.toArray tb)).alloc (.cells c.toArray tc)).alloc (.cells d.toArray td)) (w.heap.size + 3) td d ∧ Below w.heap.size w ((((w.alloc (.cells a.toArray ta)).alloc (.cells b.toArray tb)).alloc (.cells c.toArray tc)).alloc (.cells d.toArray td)) := by
  have h1 := (((Box.new w ta a).alloc (.cells b.toArray tb)).alloc (.cells c.toArray tc)).alloc (.cells d.toArray td)
  have h2 := ((Box.new (w.alloc (.cells a.toArray ta)) tb b).alloc (.cells c.toArray tc)).alloc (.cells d.toArray td)
  have h3 := (Box.new ((w.alloc (.cells a.toArray ta)).alloc (.cells b.toArray tb)) tc c).alloc (.cells d.toArray td)
  have h4 := Box.new (((w.alloc (.cells a.toArray ta)).alloc (.cells b.toArray tb)).alloc (.cells c.toArray tc)) td d
  simp only [World.size_alloc] at h2 h3 h4
  exact ⟨h1, h2, h3, h4, ((((Below.refl _ _).alloc (Nat.le_refl _) _).alloc (by simp) _).alloc (by simp; omega) _).alloc (by simp; omega) _⟩
theorem KeepP.put {w w' : World} {b : Nat} {l : List Value} (hB : Box w b 39 l) (h : ∀ k, k ≠ b → w'.heap[k]? = w.heap[k]?) : KeepP w w' := fun k cs t fz ht hk => by
  rw [h k (fun e => by
    subst e
    unfold Box at hB
    rw [hB] at hk
    simp only [Option.some.injEq, Obj.cells.injEq] at hk
    exact ht hk.2.1.symm)]
  exact hk
/-- what the last store leaves -/
theorem ps_fin {w W : World} {b : Nat} {l : List Value} (hx : Box W b 39 l) (hl : l.length = 5) (hb : w.heap.size ≤ b) (hB : Below w.heap.size w W) {v : Value} {L : List Ac} (hr : RdAT W v L) (q : Ps) :
    Box (Q.putAt W (.pointer (some ⟨b, 0, none⟩)) (.agg (pcells q).toArray)) b 39 (pcells q) ∧ RdAT (Q.putAt W (.pointer (some ⟨b, 0, none⟩)) (.agg (pcells q).toArray)) v L ∧ Below w.heap.size w (Q.putAt W (.pointer (some ⟨b, 0, none⟩)) (.agg (pcells q).toArray)) := by
  have hP := hx.putAt (pcells q) (by rw [hl]; rfl)
  exact ⟨hP.box, hr.keep (KeepP.put hx hP.other), hP.below _ _ hb hB⟩

/-- what lives while a region is walked -/
structure St (w : World) (l : List Value) (W : World) : Prop where
  p : Box W w.heap.size 39 l
  r : ∃ k, k.length = 5 ∧ Box W (w.heap.size + 1) 39 k
  d : Box W (w.heap.size + 1 + 1) 24 [.int .i64 6, .int .i64 0, .int .i64 0, .string ⟨#[]⟩, .slice none 0 0, .string ⟨#[]⟩]
  z : Box W (w.heap.size + 1 + 1 + 1) 39 [.int .i64 0, .int .i64 0, .string ⟨#[]⟩, .string ⟨#[]⟩, .string ⟨#[]⟩]
  b : Below w.heap.size w W
theorem St.alloc {w W : World} {l : List Value} (h : St w l W) (o : Obj) : St w l (W.alloc o) :=
  ⟨h.p.alloc o, h.r.elim fun k hk => ⟨k, hk.1, hk.2.alloc o⟩, h.d.alloc o, h.z.alloc o, h.b.alloc h.b.size o⟩
theorem St.later {w W V : World} {l : List Value} (h : St w l W) (hb : Below W.heap.size W V) : St w l V :=
  ⟨h.p.later hb, h.r.elim fun k hk => ⟨k, hk.1, hk.2.later hb⟩, h.d.later hb, h.z.later hb, h.b.trans (Below.mono hb h.b.size)⟩
theorem St.drew {w W : World} {l : List Value} (h : St w l W) : St w l W.drew :=
  ⟨h.p.drew, h.r.elim fun k hk => ⟨k, hk.1, hk.2.drew⟩, h.d.drew, h.z.drew, h.b.drew⟩
theorem St.put {w W : World} {l : List Value} (h : St w l W) (q : List Value) (hq : q.length = 5) :
    Lies W (.pointer (some ⟨w.heap.size + 1, 0, none⟩)) 5 ∧ St w l (Q.putAt W (.pointer (some ⟨w.heap.size + 1, 0, none⟩)) (.agg q.toArray)) ∧ Box (Q.putAt W (.pointer (some ⟨w.heap.size + 1, 0, none⟩)) (.agg q.toArray)) (w.heap.size + 1) 39 q ∧ KeepP W (Q.putAt W (.pointer (some ⟨w.heap.size + 1, 0, none⟩)) (.agg q.toArray)) := by
  obtain ⟨k, hk, hr⟩ := h.r
  have hP := hr.putAt q (by rw [hk, hq])
  have ne : ∀ j, j ≠ w.heap.size + 1 → (Q.putAt W (.pointer (some ⟨w.heap.size + 1, 0, none⟩)) (.agg q.toArray)).heap[j]? = W.heap[j]? := hP.other
  exact ⟨hr.lies0 hk, ⟨h.p.kept (ne _ (by omega)), ⟨q, hq, hP.box⟩, h.d.kept (ne _ (by omega)), h.z.kept (ne _ (by omega)), hP.below _ _ (Nat.le_succ _) h.b⟩, hP.box, KeepP.put hr hP.other⟩
theorem row_facts (st : Nat) (h : st ≤ 10) (k : Nat) (hk : k < 15) : (rowB st).length = 15 ∧ ((rowB st).getD k 0).toNat = (row st).getD k 46 ∧ (what st k = 46 ∧ st = 0 ∧ (row st).getD k 46 = 88 ∨ (row st).getD k 46 = what st k ∧ ¬ (st = 0 ∧ (row st).getD k 46 = 88)) := by
  have all : ∀ st, st < 11 → ∀ k, k < 15 → (rowB st).length = 15 ∧ ((rowB st).getD k 0).toNat = (row st).getD k 46 ∧ (what st k = 46 ∧ st = 0 ∧ (row st).getD k 46 = 88 ∨ (row st).getD k 46 = what st k ∧ ¬ (st = 0 ∧ (row st).getD k 46 = 88)) := by decide +kernel
  exact all st (by omega) k hk
theorem idx_facts : ∀ k, k < 15 → indexByte [120, 101, 98, 99, 105, 107, 100, 109, 91, 93, 92, 112, 102, 110, 117] ((clsL k : Int).toNat.toUInt8) = (k : Int) ∧ clsL k < 256 := by decide +kernel

set_option maxHeartbeats 32000000 in
set_option maxRecDepth 100000 in
theorem PStep_out (p : Ps) (c : Int) (hc : c < 0 ∨ 1114111 < c) (w : World) :
    Calls Tryz.prog 30 #[.agg #[.int .i64 (p.st : Int), .int .i64 p.mark, .string (bs p.inter), .string (bs p.args), .string (bs p.text)], .int .i64 c] w fun e w' => ∃ v, e = .returned (.tuple #[.agg (pcells (step p c).1).toArray, v]) ∧ RdAT w' v (step p c).2 ∧ Below w.heap.size w w' := by
  have hs : step p c = (p, []) := by unfold step; rw [if_pos hc]
  rw [hs]
  dsimp only
  have HBT := Hid.mk' (Between_any c 0 1114111 ((w.alloc (.cells #[.int .i64 (p.st : Int), .int .i64 p.mark, .string (bs p.inter), .string (bs p.args), .string (bs p.text)] 39)).alloc (.cells #[.int .i64 0, .int .i64 0, .string ⟨#[]⟩, .string ⟨#[]⟩, .string ⟨#[]⟩] 39)))
  rw [show btw c 0 1114111 = false from decide_eq_false (by omega)] at HBT
  have b1 := Box.new (w.alloc (.cells #[.int .i64 (p.st : Int), .int .i64 p.mark, .string (bs p.inter), .string (bs p.args), .string (bs p.text)] 39)) 39 [.int .i64 (p.st : Int), .int .i64 p.mark, .string (bs p.inter), .string (bs p.args), .string (bs p.text)]
  rw [World.size_alloc] at b1
  have HF := Hid.mk' (And.intro b1 (show Below w.heap.size w ((w.alloc (.cells #[.int .i64 (p.st : Int), .int .i64 p.mark, .string (bs p.inter), .string (bs p.args), .string (bs p.text)] 39)).alloc (.cells #[.int .i64 (p.st : Int), .int .i64 p.mark, .string (bs p.inter), .string (bs p.args), .string (bs p.text)] 39)) from ((Below.refl _ _).alloc (Nat.le_refl _) _).alloc (by simp) _))
  clear b1 hs hc
  unfold pcells
  generalize bs p.inter = S1 at *
  generalize bs p.args = S2 at *
  generalize bs p.text = S3 at *
  go_enter Tryz.func30, Tryz.ntmps30
  go_wp2_with fail
  refine HBT.out.mono ?_
  rintro e w2 ⟨rfl, rfl⟩
  go_wp2
  exact ret_box2 Tryz.results30 39 [.int .i64 (p.st : Int), .int .i64 p.mark, .string S1, .string S2, .string S3] (w.heap.size + 1) _ Tryz.underlying39 rfl sizePs _ rfl rfl HF.out.1 rfl ⟨_, rfl, RdAT.nil _, HF.out.2⟩

set_option maxHeartbeats 32000000 in
set_option maxRecDepth 100000 in
theorem PStep_low (p : Ps) (hp : right p) (c m : Int) (hc : 0 ≤ c ∧ c ≤ 1114111) (h82 : what p.st (cls c) ≠ 82) (w : World) (hm : w.cell? ⟨2, 0, none⟩ = some (.int .i64 m)) :
    Calls Tryz.prog 30 #[.agg #[.int .i64 (p.st : Int), .int .i64 p.mark, .string (bs p.inter), .string (bs p.args), .string (bs p.text)], .int .i64 c] w fun e w' => ∃ v, e = .returned (.tuple #[.agg (pcells (step p c).1).toArray, v]) ∧ RdAT w' v (step p c).2 ∧ Below w.heap.size w w' := by
  have hs : step p c = does p c (what p.st (cls c)) := step_of hc.1 hc.2 rfl h82
  rw [hs]
  have hsp := letters p.st (cls c) hp.st (cls_lt c)
  unfold spec at hsp
  have hsg := cls_cases c
  obtain ⟨r15, rget, rcase⟩ := row_facts p.st hp.st (cls c) (cls_lt c)
  obtain ⟨ii, il⟩ := idx_facts (cls c) (cls_lt c)
  have hil := hp.ilen
  have hal := hp.alen
  have htl := hp.tlen
  have z1 := C.bs_size p.inter
  have z2 := C.bs_size p.args
  have z3 := C.bs_size p.text
  have HBT := Hid.mk' (fun W => Between_any c 0 1114111 W)
  have hbtw : btw c 0 1114111 = true := decide_eq_true hc
  simp only [hbtw] at HBT
  have HST := Hid.mk' (fun W => stepTable_any p.st hp.st W)
  have HCS := Hid.mk' (fun W => class_any c W)
  have HIX := Hid.mk' (fun W => Tryz.strings_IndexByte ⟨#[120, 101, 98, 99, 105, 107, 100, 109, 91, 93, 92, 112, 102, 110, 117]⟩ (clsL (cls c) : Int) W)
  have HBY := Hid.mk' (fun h1 W => Bytes_small c hc.1 h1 W)
  have HRT := Hid.mk' (fun W => RuneText_any c W)
  have hml := World.block_lt_of_cell? _ _ hm
  have HFI := Hid.mk' (fun W (h : Below w.heap.size w W) => finalAct_any p c m W ⟨by omega, by omega⟩ ((h.cell (p := ⟨2, 0, none⟩) hml).trans hm))
  have hTs : (bs (rowB p.st)).size = 15 := by rw [C.bs_size]; exact r15
  have hTg : ∀ h, ((bs (rowB p.st))[cls c]'h).toNat = (row p.st).getD (cls c) 46 := fun h => by
    have e := get_mk (rowB p.st) (cls c) (by rw [r15]; exact cls_lt c) h
    have e2 : (rowB p.st).getD (cls c) 0 = (rowB p.st)[cls c]'(by rw [r15]; exact cls_lt c) := by
      rw [List.getD_eq_getElem?_getD, List.getElem?_eq_getElem (by rw [r15]; exact cls_lt c)]; rfl
    rw [← rget, e2]
    exact congrArg UInt8.toNat e
  have HIB : Hid (∀ W, Calls Tryz.prog 48 #[.string ⟨#[120, 101, 98, 99, 105, 107, 100, 109, 91, 93, 92, 112, 102, 110, 117]⟩, .int .u8 (clsL (cls c) : Int)] W fun e w' => e = .returned (.int .i64 (cls c : Int)) ∧ w' = W) := fun W => by
    have h := HIX.out W
    rw [show (⟨#[120, 101, 98, 99, 105, 107, 100, 109, 91, 93, 92, 112, 102, 110, 117]⟩ : ByteArray).data.toList = [120, 101, 98, 99, 105, 107, 100, 109, 91, 93, 92, 112, 102, 110, 117] from rfl, ii] at h
    exact h
  have hk15 := cls_lt c
  clear HIX ii rget r15 hm hml hbtw hs
  generalize (row p.st).getD (cls c) 46 = r0 at *
  generalize bs (rowB p.st) = T at *
  generalize what p.st (cls c) = L at *
  generalize clsL (cls c) = KL at *
  generalize cls c = k at *
  obtain ⟨b0, b1, b2, b3, bw⟩ := four w [.int .i64 (p.st : Int), .int .i64 p.mark, .string (bs p.inter), .string (bs p.args), .string (bs p.text)] [.int .i64 0, .int .i64 0, .string ⟨#[]⟩, .string ⟨#[]⟩, .string ⟨#[]⟩] [.int .i64 6, .int .i64 0, .int .i64 0, .string ⟨#[]⟩, .slice none 0 0, .string ⟨#[]⟩] [.int .i64 0, .int .i64 0, .string ⟨#[]⟩, .string ⟨#[]⟩, .string ⟨#[]⟩] 39 39 24 39
  go_enter Tryz.func30, Tryz.ntmps30
  go_wp2_with fail
  refine (HBT.out _).mono ?_
  rintro e w2 ⟨rfl, rfl⟩
  go_upto_if 21 with fail
  generalize hW4 : ((((w.alloc (.cells #[.int .i64 (p.st : Int), .int .i64 p.mark, .string (bs p.inter), .string (bs p.args), .string (bs p.text)] 39)).alloc (.cells #[.int .i64 0, .int .i64 0, .string ⟨#[]⟩, .string ⟨#[]⟩, .string ⟨#[]⟩] 39)).alloc (.cells #[.int .i64 6, .int .i64 0, .int .i64 0, .string ⟨#[]⟩, .slice none 0 0, .string ⟨#[]⟩] 24)).alloc (.cells #[.int .i64 0, .int .i64 0, .string ⟨#[]⟩, .string ⟨#[]⟩, .string ⟨#[]⟩] 39)) = w4 at *
  clear hW4 HBT
  have hz4 := b3.lt
  go_cut [8] (fun s8 wx => ∃ S8, s8 = .string S8 ∧ Hid (c < 128 → S8 = bs [sg c]) ∧ Hid (Below w4.heap.size w4 wx))
  case first =>
    by_cases h128 : c < 128
    · have HB := Hid.mk' (HBY.out h128 w4)
      clear HBY
      go_wp2_with fail
      refine HB.out.mono ?_
      rintro e w5 ⟨rfl, hb5⟩
      have HF := Hid.mk' hb5
      clear hb5
      go_wp2_with fail
      go_meet
      exact ⟨_, rfl, fun _ => rfl, HF.out⟩
    · go_wp2_with fail
      go_meet
      exact ⟨_, rfl, (fun h => by omega), Below.refl _ _⟩
  case rest =>
  obtain ⟨S8, rfl, HS8, HBC⟩ := hcut
  have HW := Hid.mk' (show Box wc w.heap.size 39 [.int .i64 (p.st : Int), .int .i64 p.mark, .string (bs p.inter), .string (bs p.args), .string (bs p.text)] ∧ Box wc (w.heap.size + 1) 39 [.int .i64 0, .int .i64 0, .string ⟨#[]⟩, .string ⟨#[]⟩, .string ⟨#[]⟩] ∧ Box wc (w.heap.size + 2) 24 [.int .i64 6, .int .i64 0, .int .i64 0, .string ⟨#[]⟩, .slice none 0 0, .string ⟨#[]⟩] ∧ Box wc (w.heap.size + 3) 39 [.int .i64 0, .int .i64 0, .string ⟨#[]⟩, .string ⟨#[]⟩, .string ⟨#[]⟩] ∧ Below w.heap.size w wc from ⟨b0.later HBC.out, b1.later HBC.out, b2.later HBC.out, b3.later HBC.out, bw.trans (Below.mono HBC.out (by omega))⟩)
  clear b0 b1 b2 b3 bw HBC HBY hz4
  have a0 := HW.out.1.cell (j := 0) (v := .int .i64 (p.st : Int)) rfl
  have a1 := HW.out.1.cell (j := 1) (v := .int .i64 p.mark) rfl
  have a2 := HW.out.1.cell (j := 2) (v := .string (bs p.inter)) rfl
  have a3 := HW.out.1.cell (j := 3) (v := .string (bs p.args)) rfl
  have a4 := HW.out.1.cell (j := 4) (v := .string (bs p.text)) rfl
  have y0 := HW.out.2.2.2.1.cell (j := 0) (v := .int .i64 0) rfl
  have y1 := HW.out.2.2.2.1.cell (j := 1) (v := .int .i64 0) rfl
  have y2 := HW.out.2.2.2.1.cell (j := 2) (v := .string ⟨#[]⟩) rfl
  have y3 := HW.out.2.2.2.1.cell (j := 3) (v := .string ⟨#[]⟩) rfl
  have y4 := HW.out.2.2.2.1.cell (j := 4) (v := .string ⟨#[]⟩) rfl
  have hk2 : (k : Int) < (T.size : Int) := by omega
  have hTr : ∀ h, ((T[k]'h).toNat : Int) = (r0 : Int) := fun h => by rw [hTg h]
  clear hTg
  have HSG := Hid.mk' hsg
  clear hsg hk15 il hc
  rcases hsp with rfl | ⟨rfl | rfl, h⟩ | ⟨rfl, h⟩ | ⟨rfl, h⟩ | ⟨rfl, h⟩ | ⟨rfl, h⟩ | ⟨rfl, h⟩ | ⟨rfl, h⟩ | ⟨rfl, h⟩ | ⟨rfl, h⟩ | ⟨rfl, h⟩ | ⟨rfl, h⟩ | ⟨rfl, h⟩ | ⟨rfl, h⟩ | ⟨rfl, h⟩ | ⟨rfl, h⟩ | ⟨rfl, h⟩ | ⟨rfl, h⟩
  · rcases rcase with ⟨_, hst0, hr0⟩ | ⟨hr0, hne⟩
    · subst hr0
      have hs0 : ((p.st : Int) == 0) = true := by simpa using hst0
      clear hst0 h82
      have HF := Hid.mk' (ps_fin (w := w) HW.out.2.1 rfl (Nat.le_succ _) HW.out.2.2.2.2 (RdAT.nil _) p)
      have hLs := HW.out.2.1.lies0 (n := 5) rfl
      have hHo : Holds (.agg #[.int .i64 ((p.st : Int)), .int .i64 (p.mark), .string (bs p.inter), .string (bs p.args), .string (bs p.text)]) 5 := holds_p p
      have hkk : k < T.size := by omega
      have hT2 : ((T[k]'hkk).toNat : Int) = 88 := hTr hkk
      clear hTr hTs
      clear HFI HRT
      go_wp2_with fail
      refine (HST.out _).mono ?_
      rintro e w5 ⟨rfl, rfl⟩
      go_wp2_with fail
      refine (HCS.out _).mono ?_
      rintro e w5 ⟨rfl, rfl⟩
      go_wp2_with fail
      refine (HIB.out _).mono ?_
      rintro e w5 ⟨rfl, rfl⟩
      go_wp2
      exact ret_box2 Tryz.results30 39 (pcells p) (w.heap.size + 1) _ Tryz.underlying39 rfl sizePs _ rfl rfl HF.out.1 rfl ⟨_, by rw [does_46], by rw [does_46]; exact HF.out.2.1, HF.out.2.2⟩
    · subst hr0
      clear hne h82
      have HF := Hid.mk' (ps_fin (w := w) HW.out.2.1 rfl (Nat.le_succ _) HW.out.2.2.2.2 (RdAT.nil _) p)
      have hLs := HW.out.2.1.lies0 (n := 5) rfl
      have hHo : Holds (.agg #[.int .i64 ((p.st : Int)), .int .i64 (p.mark), .string (bs p.inter), .string (bs p.args), .string (bs p.text)]) 5 := holds_p p
      have hkk : k < T.size := by omega
      have hT2 : ((T[k]'hkk).toNat : Int) = 46 := hTr hkk
      clear hTr hTs
      clear HFI HRT
      cases hb : ((p.st : Int) == 0) with
      | false =>
        go_wp2_with fail
        refine (HST.out _).mono ?_
        rintro e w5 ⟨rfl, rfl⟩
        go_wp2_with fail
        refine (HCS.out _).mono ?_
        rintro e w5 ⟨rfl, rfl⟩
        go_wp2_with fail
        refine (HIB.out _).mono ?_
        rintro e w5 ⟨rfl, rfl⟩
        go_wp2
        exact ret_box2 Tryz.results30 39 (pcells p) (w.heap.size + 1) _ Tryz.underlying39 rfl sizePs _ rfl rfl HF.out.1 rfl ⟨_, by rw [does_46], by rw [does_46]; exact HF.out.2.1, HF.out.2.2⟩
      | true =>
        go_wp2_with fail
        refine (HST.out _).mono ?_
        rintro e w5 ⟨rfl, rfl⟩
        go_wp2_with fail
        refine (HCS.out _).mono ?_
        rintro e w5 ⟨rfl, rfl⟩
        go_wp2_with fail
        refine (HIB.out _).mono ?_
        rintro e w5 ⟨rfl, rfl⟩
        go_wp2
        exact ret_box2 Tryz.results30 39 (pcells p) (w.heap.size + 1) _ Tryz.underlying39 rfl sizePs _ rfl rfl HF.out.1 rfl ⟨_, by rw [does_46], by rw [does_46]; exact HF.out.2.1, HF.out.2.2⟩
  · rcases rcase with ⟨h1, _, _⟩ | ⟨hr0, hne⟩
    · exact absurd h1 (by decide)
    subst hr0
    clear hne h82
    have hne0 : ((p.st : Int) == 0) = false := beq_false_of_ne (by omega)
    have HF := Hid.mk' (ps_fin (w := w) HW.out.2.1 rfl (Nat.le_succ _) HW.out.2.2.2.2 (box_act (y := gone) HW.out.2.2.1 (RdT.nil _)) p0)
    have hLs := HW.out.2.1.lies0 (n := 5) rfl
    have hHo : Holds (.agg #[.int .i64 (0), .int .i64 (0), .string (⟨#[]⟩), .string (⟨#[]⟩), .string (⟨#[]⟩)]) 5 := holds_p p0
    have hkk : k < T.size := by omega
    have hT2 : ((T[k]'hkk).toNat : Int) = 88 := hTr hkk
    clear hTr hTs
    clear h
    clear HFI HRT
    go_wp2_with fail
    refine (HST.out _).mono ?_
    rintro e w5 ⟨rfl, rfl⟩
    go_wp2_with fail
    refine (HCS.out _).mono ?_
    rintro e w5 ⟨rfl, rfl⟩
    go_wp2_with fail
    refine (HIB.out _).mono ?_
    rintro e w5 ⟨rfl, rfl⟩
    go_wp2
    exact ret_box2 Tryz.results30 39 (pcells p0) (w.heap.size + 1) _ Tryz.underlying39 rfl sizePs _ rfl rfl HF.out.1 rfl ⟨_, by rw [does_88], by rw [does_88]; exact HF.out.2.1, HF.out.2.2⟩
  · rcases rcase with ⟨h1, _, _⟩ | ⟨hr0, hne⟩
    · exact absurd h1 (by decide)
    subst hr0
    clear hne h82
    have hne0 : ((p.st : Int) == 0) = false := beq_false_of_ne (by omega)
    have HF := Hid.mk' (ps_fin (w := w) HW.out.2.1 rfl (Nat.le_succ _) HW.out.2.2.2.2 (box_act (y := gone) HW.out.2.2.1 (RdT.nil _)) p0)
    have hLs := HW.out.2.1.lies0 (n := 5) rfl
    have hHo : Holds (.agg #[.int .i64 (0), .int .i64 (0), .string (⟨#[]⟩), .string (⟨#[]⟩), .string (⟨#[]⟩)]) 5 := holds_p p0
    have hkk : k < T.size := by omega
    have hT2 : ((T[k]'hkk).toNat : Int) = 68 := hTr hkk
    clear hTr hTs
    clear h
    clear HFI HRT
    go_wp2_with fail
    refine (HST.out _).mono ?_
    rintro e w5 ⟨rfl, rfl⟩
    go_wp2_with fail
    refine (HCS.out _).mono ?_
    rintro e w5 ⟨rfl, rfl⟩
    go_wp2_with fail
    refine (HIB.out _).mono ?_
    rintro e w5 ⟨rfl, rfl⟩
    go_wp2
    exact ret_box2 Tryz.results30 39 (pcells p0) (w.heap.size + 1) _ Tryz.underlying39 rfl sizePs _ rfl rfl HF.out.1 rfl ⟨_, by rw [does_68], by rw [does_68]; exact HF.out.2.1, HF.out.2.2⟩
  · rcases rcase with ⟨h1, _, _⟩ | ⟨hr0, hne⟩
    · exact absurd h1 (by decide)
    subst hr0
    clear hne h82
    by_cases hst : p.st = 0
    · have hs0 : ((p.st : Int) == 0) = true := by rw [beq_iff_eq]; omega
      replace hst := Hid.mk' hst
      have HF := Hid.mk' (ps_fin (w := w) HW.out.2.1 rfl (Nat.le_succ _) HW.out.2.2.2.2 (RdAT.nil _) (at' 1))
      have hLs := HW.out.2.1.lies0 (n := 5) rfl
      have hHo : Holds (.agg #[.int .i64 (1), .int .i64 (0), .string (⟨#[]⟩), .string (⟨#[]⟩), .string (⟨#[]⟩)]) 5 := holds_p (at' 1)
      have hkk : k < T.size := by omega
      have hT2 : ((T[k]'hkk).toNat : Int) = 69 := hTr hkk
      clear hTr hTs
      clear h
      clear HFI HRT
      go_wp2_with fail
      refine (HST.out _).mono ?_
      rintro e w5 ⟨rfl, rfl⟩
      go_wp2_with fail
      refine (HCS.out _).mono ?_
      rintro e w5 ⟨rfl, rfl⟩
      go_wp2_with fail
      refine (HIB.out _).mono ?_
      rintro e w5 ⟨rfl, rfl⟩
      go_wp2
      exact ret_box2 Tryz.results30 39 (pcells (at' 1)) (w.heap.size + 1) _ Tryz.underlying39 rfl sizePs _ rfl rfl HF.out.1 rfl ⟨_, by rw [does_69a p c hst.out], by rw [does_69a p c hst.out]; exact HF.out.2.1, HF.out.2.2⟩
    · have hs0 : ((p.st : Int) == 0) = false := beq_false_of_ne (by omega)
      replace hst := Hid.mk' hst
      have HF := Hid.mk' (ps_fin (w := w) HW.out.2.1 rfl (Nat.le_succ _) HW.out.2.2.2.2 (box_act (y := gone) HW.out.2.2.1 (RdT.nil _)) (at' 1))
      have hLs := HW.out.2.1.lies0 (n := 5) rfl
      have hHo : Holds (.agg #[.int .i64 (1), .int .i64 (0), .string (⟨#[]⟩), .string (⟨#[]⟩), .string (⟨#[]⟩)]) 5 := holds_p (at' 1)
      have hkk : k < T.size := by omega
      have hT2 : ((T[k]'hkk).toNat : Int) = 69 := hTr hkk
      clear hTr hTs
      clear h
      clear HFI HRT
      go_wp2_with fail
      refine (HST.out _).mono ?_
      rintro e w5 ⟨rfl, rfl⟩
      go_wp2_with fail
      refine (HCS.out _).mono ?_
      rintro e w5 ⟨rfl, rfl⟩
      go_wp2_with fail
      refine (HIB.out _).mono ?_
      rintro e w5 ⟨rfl, rfl⟩
      go_wp2
      exact ret_box2 Tryz.results30 39 (pcells (at' 1)) (w.heap.size + 1) _ Tryz.underlying39 rfl sizePs _ rfl rfl HF.out.1 rfl ⟨_, by rw [does_69b p c hst.out], by rw [does_69b p c hst.out]; exact HF.out.2.1, HF.out.2.2⟩
  · rcases rcase with ⟨h1, _, _⟩ | ⟨hr0, hne⟩
    · exact absurd h1 (by decide)
    subst hr0
    clear hne h82
    have HF := Hid.mk' (ps_fin (w := w) (HW.out.2.1.alloc (.cells #[.int .i64 2, .int .i64 c, .int .i64 0, .string ⟨#[]⟩, .slice none 0 0, .string ⟨#[]⟩] 24)) rfl (Nat.le_succ _) (HW.out.2.2.2.2.alloc HW.out.2.2.2.2.size _) (one_act _ ⟨2, c, 0, [], [], []⟩ (.slice none 0 0) (RdT.nil _)) p)
    have hLs := (HW.out.2.1.alloc (.cells #[.int .i64 2, .int .i64 c, .int .i64 0, .string ⟨#[]⟩, .slice none 0 0, .string ⟨#[]⟩] 24)).lies0 (n := 5) rfl
    have hHo : Holds (.agg #[.int .i64 ((p.st : Int)), .int .i64 (p.mark), .string (bs p.inter), .string (bs p.args), .string (bs p.text)]) 5 := holds_p p
    have hkk : k < T.size := by omega
    have hT2 : ((T[k]'hkk).toNat : Int) = 67 := hTr hkk
    clear hTr hTs
    clear h
    clear HFI HRT
    cases hb : ((p.st : Int) == 0) with
    | false =>
      go_wp2_with fail
      refine (HST.out _).mono ?_
      rintro e w5 ⟨rfl, rfl⟩
      go_wp2_with fail
      refine (HCS.out _).mono ?_
      rintro e w5 ⟨rfl, rfl⟩
      go_wp2_with fail
      refine (HIB.out _).mono ?_
      rintro e w5 ⟨rfl, rfl⟩
      go_wp2
      exact ret_box2 Tryz.results30 39 (pcells p) (w.heap.size + 1) _ Tryz.underlying39 rfl sizePs _ rfl rfl HF.out.1 rfl ⟨_, by rw [does_67], by rw [does_67]; exact HF.out.2.1, HF.out.2.2⟩
    | true =>
      go_wp2_with fail
      refine (HST.out _).mono ?_
      rintro e w5 ⟨rfl, rfl⟩
      go_wp2_with fail
      refine (HCS.out _).mono ?_
      rintro e w5 ⟨rfl, rfl⟩
      go_wp2_with fail
      refine (HIB.out _).mono ?_
      rintro e w5 ⟨rfl, rfl⟩
      go_wp2
      exact ret_box2 Tryz.results30 39 (pcells p) (w.heap.size + 1) _ Tryz.underlying39 rfl sizePs _ rfl rfl HF.out.1 rfl ⟨_, by rw [does_67], by rw [does_67]; exact HF.out.2.1, HF.out.2.2⟩
  · rcases rcase with ⟨h1, _, _⟩ | ⟨hr0, hne⟩
    · exact absurd h1 (by decide)
    subst hr0
    clear hne h82
    have hs0 : ((p.st : Int) == 0) = true := by simpa using h.1
    have HF := Hid.mk' (ps_fin (w := w) (HW.out.2.1.alloc (.cells #[.int .i64 1, .int .i64 c, .int .i64 0, .string ⟨#[]⟩, .slice none 0 0, .string ⟨#[]⟩] 24)) rfl (Nat.le_succ _) (HW.out.2.2.2.2.alloc HW.out.2.2.2.2.size _) (one_act _ ⟨1, c, 0, [], [], []⟩ (.slice none 0 0) (RdT.nil _)) p)
    have hLs := (HW.out.2.1.alloc (.cells #[.int .i64 1, .int .i64 c, .int .i64 0, .string ⟨#[]⟩, .slice none 0 0, .string ⟨#[]⟩] 24)).lies0 (n := 5) rfl
    have hHo : Holds (.agg #[.int .i64 ((p.st : Int)), .int .i64 (p.mark), .string (bs p.inter), .string (bs p.args), .string (bs p.text)]) 5 := holds_p p
    have hkk : k < T.size := by omega
    have hT2 : ((T[k]'hkk).toNat : Int) = 80 := hTr hkk
    clear hTr hTs
    clear h
    clear HFI HRT
    go_wp2_with fail
    refine (HST.out _).mono ?_
    rintro e w5 ⟨rfl, rfl⟩
    go_wp2_with fail
    refine (HCS.out _).mono ?_
    rintro e w5 ⟨rfl, rfl⟩
    go_wp2_with fail
    refine (HIB.out _).mono ?_
    rintro e w5 ⟨rfl, rfl⟩
    go_wp2
    exact ret_box2 Tryz.results30 39 (pcells p) (w.heap.size + 1) _ Tryz.underlying39 rfl sizePs _ rfl rfl HF.out.1 rfl ⟨_, by rw [does_80], by rw [does_80]; exact HF.out.2.1, HF.out.2.2⟩
  · rcases rcase with ⟨h1, _, _⟩ | ⟨hr0, hne⟩
    · exact absurd h1 (by decide)
    subst hr0
    clear hne h82
    have hc128 : c < 128 := by have h1 := HSG.out; omega
    obtain rfl : S8 = bs [sg c] := HS8.out hc128
    clear HS8 hc128
    have hsz1 : (bs [sg c]).size = 1 := rfl
    have hne0 : ((p.st : Int) == 0) = false := beq_false_of_ne (by omega)
    have g0 := HW.out.1.frozen 0
    have g1 := HW.out.1.frozen 1
    have g2 := HW.out.1.frozen 2
    have g3 := HW.out.1.frozen 3
    have g4 := HW.out.1.frozen 4
    by_cases hst : p.st = 1
    · have hs1 : ((p.st : Int) == 1) = true := by rw [beq_iff_eq]; omega
      replace hst := Hid.mk' hst
      have HF := Hid.mk' (ps_fin (w := w) (box_set (box_set HW.out.2.1 (j := 2) (v := (.string (bs [sg c]))) (show w.heap.size + 1 ≠ w.heap.size from Nat.succ_ne_self _)) (j := 0) (v := (.int .i64 2)) (show w.heap.size + 1 ≠ w.heap.size from Nat.succ_ne_self _)) rfl (Nat.le_succ _) ((HW.out.2.2.2.2.setCell (p := ⟨w.heap.size, 2, none⟩) (u := (.string (bs [sg c]))) (Nat.le_refl _)).setCell (p := ⟨w.heap.size, 0, none⟩) (u := (.int .i64 2)) (Nat.le_refl _)) (RdAT.nil _) ⟨2, p.mark, [sg c], p.args, p.text⟩)
      have hLs := (box_set (box_set HW.out.2.1 (j := 2) (v := (.string (bs [sg c]))) (show w.heap.size + 1 ≠ w.heap.size from Nat.succ_ne_self _)) (j := 0) (v := (.int .i64 2)) (show w.heap.size + 1 ≠ w.heap.size from Nat.succ_ne_self _)).lies0 (n := 5) rfl
      have hHo : Holds (.agg #[.int .i64 (2), .int .i64 (p.mark), .string (bs [sg c]), .string (bs p.args), .string (bs p.text)]) 5 := holds_p ⟨2, p.mark, [sg c], p.args, p.text⟩
      have hkk : k < T.size := by omega
      have hT2 : ((T[k]'hkk).toNat : Int) = 73 := hTr hkk
      clear hTr hTs
      clear h
      clear HFI HRT
      go_wp2_with fail
      refine (HST.out _).mono ?_
      rintro e w5 ⟨rfl, rfl⟩
      go_wp2_with fail
      refine (HCS.out _).mono ?_
      rintro e w5 ⟨rfl, rfl⟩
      go_wp2_with fail
      refine (HIB.out _).mono ?_
      rintro e w5 ⟨rfl, rfl⟩
      go_wp2
      exact ret_box2 Tryz.results30 39 (pcells ⟨2, p.mark, [sg c], p.args, p.text⟩) (w.heap.size + 1) _ Tryz.underlying39 rfl sizePs _ rfl rfl HF.out.1 rfl ⟨_, by rw [does_73a p c hst.out], by rw [does_73a p c hst.out]; exact HF.out.2.1, HF.out.2.2⟩
    · have hs1 : ((p.st : Int) == 1) = false := beq_false_of_ne (by omega)
      replace hst := Hid.mk' hst
      have HF := Hid.mk' (ps_fin (w := w) (box_set (box_set HW.out.2.1 (j := 2) (v := (.string (bs [sg c]))) (show w.heap.size + 1 ≠ w.heap.size from Nat.succ_ne_self _)) (j := 0) (v := (.int .i64 5)) (show w.heap.size + 1 ≠ w.heap.size from Nat.succ_ne_self _)) rfl (Nat.le_succ _) ((HW.out.2.2.2.2.setCell (p := ⟨w.heap.size, 2, none⟩) (u := (.string (bs [sg c]))) (Nat.le_refl _)).setCell (p := ⟨w.heap.size, 0, none⟩) (u := (.int .i64 5)) (Nat.le_refl _)) (RdAT.nil _) ⟨5, p.mark, [sg c], p.args, p.text⟩)
      have hLs := (box_set (box_set HW.out.2.1 (j := 2) (v := (.string (bs [sg c]))) (show w.heap.size + 1 ≠ w.heap.size from Nat.succ_ne_self _)) (j := 0) (v := (.int .i64 5)) (show w.heap.size + 1 ≠ w.heap.size from Nat.succ_ne_self _)).lies0 (n := 5) rfl
      have hHo : Holds (.agg #[.int .i64 (5), .int .i64 (p.mark), .string (bs [sg c]), .string (bs p.args), .string (bs p.text)]) 5 := holds_p ⟨5, p.mark, [sg c], p.args, p.text⟩
      have hkk : k < T.size := by omega
      have hT2 : ((T[k]'hkk).toNat : Int) = 73 := hTr hkk
      clear hTr hTs
      clear h
      clear HFI HRT
      go_wp2_with fail
      refine (HST.out _).mono ?_
      rintro e w5 ⟨rfl, rfl⟩
      go_wp2_with fail
      refine (HCS.out _).mono ?_
      rintro e w5 ⟨rfl, rfl⟩
      go_wp2_with fail
      refine (HIB.out _).mono ?_
      rintro e w5 ⟨rfl, rfl⟩
      go_wp2
      exact ret_box2 Tryz.results30 39 (pcells ⟨5, p.mark, [sg c], p.args, p.text⟩) (w.heap.size + 1) _ Tryz.underlying39 rfl sizePs _ rfl rfl HF.out.1 rfl ⟨_, by rw [does_73b p c hst.out], by rw [does_73b p c hst.out]; exact HF.out.2.1, HF.out.2.2⟩
  · rcases rcase with ⟨h1, _, _⟩ | ⟨hr0, hne⟩
    · exact absurd h1 (by decide)
    subst hr0
    clear hne h82
    have hc128 : c < 128 := by have h1 := HSG.out; omega
    obtain rfl : S8 = bs [sg c] := HS8.out hc128
    clear HS8 hc128
    have hsz1 : (bs [sg c]).size = 1 := rfl
    have hne0 : ((p.st : Int) == 0) = false := beq_false_of_ne (by omega)
    have g0 := HW.out.1.frozen 0
    have g1 := HW.out.1.frozen 1
    have g2 := HW.out.1.frozen 2
    have g3 := HW.out.1.frozen 3
    have g4 := HW.out.1.frozen 4
    by_cases hst : p.inter.length < 3
    · have hlt : ((bs p.inter).size : Int) < 3 := by omega
      replace hst := Hid.mk' hst
      have HF := Hid.mk' (ps_fin (w := w) (box_set HW.out.2.1 (j := 2) (v := (.string (bs p.inter ++ bs [sg c]))) (show w.heap.size + 1 ≠ w.heap.size from Nat.succ_ne_self _)) rfl (Nat.le_succ _) (HW.out.2.2.2.2.setCell (p := ⟨w.heap.size, 2, none⟩) (u := (.string (bs p.inter ++ bs [sg c]))) (Nat.le_refl _)) (RdAT.nil _) ⟨p.st, p.mark, p.inter ++ [sg c], p.args, p.text⟩)
      have hLs := (box_set HW.out.2.1 (j := 2) (v := (.string (bs p.inter ++ bs [sg c]))) (show w.heap.size + 1 ≠ w.heap.size from Nat.succ_ne_self _)).lies0 (n := 5) rfl
      have hHo : Holds (.agg #[.int .i64 ((p.st : Int)), .int .i64 (p.mark), .string (bs p.inter ++ bs [sg c]), .string (bs p.args), .string (bs p.text)]) 5 := by rw [bs_app]; exact holds_p ⟨p.st, p.mark, p.inter ++ [sg c], p.args, p.text⟩
      have hkk : k < T.size := by omega
      have hT2 : ((T[k]'hkk).toNat : Int) = 74 := hTr hkk
      clear hTr hTs
      clear h
      clear HFI HRT
      go_wp2_with fail
      refine (HST.out _).mono ?_
      rintro e w5 ⟨rfl, rfl⟩
      go_wp2_with fail
      refine (HCS.out _).mono ?_
      rintro e w5 ⟨rfl, rfl⟩
      go_wp2_with fail
      refine (HIB.out _).mono ?_
      rintro e w5 ⟨rfl, rfl⟩
      go_wp2
      rw [bs_app]
      exact ret_box2 Tryz.results30 39 (pcells ⟨p.st, p.mark, p.inter ++ [sg c], p.args, p.text⟩) (w.heap.size + 1) _ Tryz.underlying39 rfl sizePs _ rfl rfl HF.out.1 rfl ⟨_, by rw [does_74a p c hst.out], by rw [does_74a p c hst.out]; exact HF.out.2.1, HF.out.2.2⟩
    · have hlt : ¬ ((bs p.inter).size : Int) < 3 := by omega
      replace hst := Hid.mk' hst
      have HF := Hid.mk' (ps_fin (w := w) HW.out.2.1 rfl (Nat.le_succ _) HW.out.2.2.2.2 (RdAT.nil _) p)
      have hLs := HW.out.2.1.lies0 (n := 5) rfl
      have hHo : Holds (.agg #[.int .i64 ((p.st : Int)), .int .i64 (p.mark), .string (bs p.inter), .string (bs p.args), .string (bs p.text)]) 5 := holds_p p
      have hkk : k < T.size := by omega
      have hT2 : ((T[k]'hkk).toNat : Int) = 74 := hTr hkk
      clear hTr hTs
      clear h
      clear HFI HRT
      go_wp2_with fail
      refine (HST.out _).mono ?_
      rintro e w5 ⟨rfl, rfl⟩
      go_wp2_with fail
      refine (HCS.out _).mono ?_
      rintro e w5 ⟨rfl, rfl⟩
      go_wp2_with fail
      refine (HIB.out _).mono ?_
      rintro e w5 ⟨rfl, rfl⟩
      go_wp2
      exact ret_box2 Tryz.results30 39 (pcells p) (w.heap.size + 1) _ Tryz.underlying39 rfl sizePs _ rfl rfl HF.out.1 rfl ⟨_, by rw [does_74b p c hst.out], by rw [does_74b p c hst.out]; exact HF.out.2.1, HF.out.2.2⟩
  · rcases rcase with ⟨h1, _, _⟩ | ⟨hr0, hne⟩
    · exact absurd h1 (by decide)
    subst hr0
    clear hne h82
    have hc128 : c < 128 := by have h1 := HSG.out; omega
    obtain rfl : S8 = bs [sg c] := HS8.out hc128
    clear HS8 hc128
    have hsz1 : (bs [sg c]).size = 1 := rfl
    have hne0 : ((p.st : Int) == 0) = false := beq_false_of_ne (by omega)
    have g0 := HW.out.1.frozen 0
    have g1 := HW.out.1.frozen 1
    have g2 := HW.out.1.frozen 2
    have g3 := HW.out.1.frozen 3
    have g4 := HW.out.1.frozen 4
    by_cases hst : p.args.length < 100
    · have hlt : ((bs p.args).size : Int) < 100 := by omega
      replace hst := Hid.mk' hst
      have HF := Hid.mk' (ps_fin (w := w) (box_set (box_set HW.out.2.1 (j := 0) (v := (.int .i64 4)) (show w.heap.size + 1 ≠ w.heap.size from Nat.succ_ne_self _)) (j := 3) (v := (.string (bs p.args ++ bs [sg c]))) (show w.heap.size + 1 ≠ w.heap.size from Nat.succ_ne_self _)) rfl (Nat.le_succ _) ((HW.out.2.2.2.2.setCell (p := ⟨w.heap.size, 0, none⟩) (u := (.int .i64 4)) (Nat.le_refl _)).setCell (p := ⟨w.heap.size, 3, none⟩) (u := (.string (bs p.args ++ bs [sg c]))) (Nat.le_refl _)) (RdAT.nil _) ⟨4, p.mark, p.inter, p.args ++ [sg c], p.text⟩)
      have hLs := (box_set (box_set HW.out.2.1 (j := 0) (v := (.int .i64 4)) (show w.heap.size + 1 ≠ w.heap.size from Nat.succ_ne_self _)) (j := 3) (v := (.string (bs p.args ++ bs [sg c]))) (show w.heap.size + 1 ≠ w.heap.size from Nat.succ_ne_self _)).lies0 (n := 5) rfl
      have hHo : Holds (.agg #[.int .i64 (4), .int .i64 (p.mark), .string (bs p.inter), .string (bs p.args ++ bs [sg c]), .string (bs p.text)]) 5 := by rw [bs_app]; exact holds_p ⟨4, p.mark, p.inter, p.args ++ [sg c], p.text⟩
      have hkk : k < T.size := by omega
      have hT2 : ((T[k]'hkk).toNat : Int) = 65 := hTr hkk
      clear hTr hTs
      clear h
      clear HFI HRT
      go_wp2_with fail
      refine (HST.out _).mono ?_
      rintro e w5 ⟨rfl, rfl⟩
      go_wp2_with fail
      refine (HCS.out _).mono ?_
      rintro e w5 ⟨rfl, rfl⟩
      go_wp2_with fail
      refine (HIB.out _).mono ?_
      rintro e w5 ⟨rfl, rfl⟩
      go_wp2
      rw [bs_app]
      exact ret_box2 Tryz.results30 39 (pcells ⟨4, p.mark, p.inter, p.args ++ [sg c], p.text⟩) (w.heap.size + 1) _ Tryz.underlying39 rfl sizePs _ rfl rfl HF.out.1 rfl ⟨_, by rw [does_65a p c hst.out], by rw [does_65a p c hst.out]; exact HF.out.2.1, HF.out.2.2⟩
    · have hlt : ¬ ((bs p.args).size : Int) < 100 := by omega
      replace hst := Hid.mk' hst
      have HF := Hid.mk' (ps_fin (w := w) (box_set HW.out.2.1 (j := 0) (v := (.int .i64 4)) (show w.heap.size + 1 ≠ w.heap.size from Nat.succ_ne_self _)) rfl (Nat.le_succ _) (HW.out.2.2.2.2.setCell (p := ⟨w.heap.size, 0, none⟩) (u := (.int .i64 4)) (Nat.le_refl _)) (RdAT.nil _) ⟨4, p.mark, p.inter, p.args, p.text⟩)
      have hLs := (box_set HW.out.2.1 (j := 0) (v := (.int .i64 4)) (show w.heap.size + 1 ≠ w.heap.size from Nat.succ_ne_self _)).lies0 (n := 5) rfl
      have hHo : Holds (.agg #[.int .i64 (4), .int .i64 (p.mark), .string (bs p.inter), .string (bs p.args), .string (bs p.text)]) 5 := holds_p ⟨4, p.mark, p.inter, p.args, p.text⟩
      have hkk : k < T.size := by omega
      have hT2 : ((T[k]'hkk).toNat : Int) = 65 := hTr hkk
      clear hTr hTs
      clear h
      clear HFI HRT
      go_wp2_with fail
      refine (HST.out _).mono ?_
      rintro e w5 ⟨rfl, rfl⟩
      go_wp2_with fail
      refine (HCS.out _).mono ?_
      rintro e w5 ⟨rfl, rfl⟩
      go_wp2_with fail
      refine (HIB.out _).mono ?_
      rintro e w5 ⟨rfl, rfl⟩
      go_wp2
      exact ret_box2 Tryz.results30 39 (pcells ⟨4, p.mark, p.inter, p.args, p.text⟩) (w.heap.size + 1) _ Tryz.underlying39 rfl sizePs _ rfl rfl HF.out.1 rfl ⟨_, by rw [does_65b p c hst.out], by rw [does_65b p c hst.out]; exact HF.out.2.1, HF.out.2.2⟩
  · rcases rcase with ⟨h1, _, _⟩ | ⟨hr0, hne⟩
    · exact absurd h1 (by decide)
    subst hr0
    clear hne h82
    have hne0 : ((p.st : Int) == 0) = false := beq_false_of_ne (by omega)
    have HF := Hid.mk' (ps_fin (w := w) HW.out.2.1 rfl (Nat.le_succ _) HW.out.2.2.2.2 (RdAT.nil _) ⟨4, c, [], [], []⟩)
    have hLs := HW.out.2.1.lies0 (n := 5) rfl
    have hHo : Holds (.agg #[.int .i64 (4), .int .i64 (c), .string (⟨#[]⟩), .string (⟨#[]⟩), .string (⟨#[]⟩)]) 5 := holds_p ⟨4, c, [], [], []⟩
    have hkk : k < T.size := by omega
    have hT2 : ((T[k]'hkk).toNat : Int) = 77 := hTr hkk
    clear hTr hTs
    clear h
    clear HFI HRT
    go_wp2_with fail
    refine (HST.out _).mono ?_
    rintro e w5 ⟨rfl, rfl⟩
    go_wp2_with fail
    refine (HCS.out _).mono ?_
    rintro e w5 ⟨rfl, rfl⟩
    go_wp2_with fail
    refine (HIB.out _).mono ?_
    rintro e w5 ⟨rfl, rfl⟩
    go_wp2
    exact ret_box2 Tryz.results30 39 (pcells ⟨4, c, [], [], []⟩) (w.heap.size + 1) _ Tryz.underlying39 rfl sizePs _ rfl rfl HF.out.1 rfl ⟨_, by rw [does_77], by rw [does_77]; exact HF.out.2.1, HF.out.2.2⟩
  · rcases rcase with ⟨h1, _, _⟩ | ⟨hr0, hne⟩
    · exact absurd h1 (by decide)
    subst hr0
    clear hne h82
    have hne0 : ((p.st : Int) == 0) = false := beq_false_of_ne (by omega)
    have HF := Hid.mk' (ps_fin (w := w) HW.out.2.1 rfl (Nat.le_succ _) HW.out.2.2.2.2 (RdAT.nil _) (at' 6))
    have hLs := HW.out.2.1.lies0 (n := 5) rfl
    have hHo : Holds (.agg #[.int .i64 (6), .int .i64 (0), .string (⟨#[]⟩), .string (⟨#[]⟩), .string (⟨#[]⟩)]) 5 := holds_p (at' 6)
    have hkk : k < T.size := by omega
    have hT2 : ((T[k]'hkk).toNat : Int) = 71 := hTr hkk
    clear hTr hTs
    clear h
    clear HFI HRT
    go_wp2_with fail
    refine (HST.out _).mono ?_
    rintro e w5 ⟨rfl, rfl⟩
    go_wp2_with fail
    refine (HCS.out _).mono ?_
    rintro e w5 ⟨rfl, rfl⟩
    go_wp2_with fail
    refine (HIB.out _).mono ?_
    rintro e w5 ⟨rfl, rfl⟩
    go_wp2
    exact ret_box2 Tryz.results30 39 (pcells (at' 6)) (w.heap.size + 1) _ Tryz.underlying39 rfl sizePs _ rfl rfl HF.out.1 rfl ⟨_, by rw [does_71], by rw [does_71]; exact HF.out.2.1, HF.out.2.2⟩
  · rcases rcase with ⟨h1, _, _⟩ | ⟨hr0, hne⟩
    · exact absurd h1 (by decide)
    subst hr0
    clear hne h82
    have hne0 : ((p.st : Int) == 0) = false := beq_false_of_ne (by omega)
    have HF := Hid.mk' (ps_fin (w := w) HW.out.2.1 rfl (Nat.le_succ _) HW.out.2.2.2.2 (RdAT.nil _) (at' 3))
    have hLs := HW.out.2.1.lies0 (n := 5) rfl
    have hHo : Holds (.agg #[.int .i64 (3), .int .i64 (0), .string (⟨#[]⟩), .string (⟨#[]⟩), .string (⟨#[]⟩)]) 5 := holds_p (at' 3)
    have hkk : k < T.size := by omega
    have hT2 : ((T[k]'hkk).toNat : Int) = 83 := hTr hkk
    clear hTr hTs
    clear h
    clear HFI HRT
    go_wp2_with fail
    refine (HST.out _).mono ?_
    rintro e w5 ⟨rfl, rfl⟩
    go_wp2_with fail
    refine (HCS.out _).mono ?_
    rintro e w5 ⟨rfl, rfl⟩
    go_wp2_with fail
    refine (HIB.out _).mono ?_
    rintro e w5 ⟨rfl, rfl⟩
    go_wp2
    exact ret_box2 Tryz.results30 39 (pcells (at' 3)) (w.heap.size + 1) _ Tryz.underlying39 rfl sizePs _ rfl rfl HF.out.1 rfl ⟨_, by rw [does_83], by rw [does_83]; exact HF.out.2.1, HF.out.2.2⟩
  · rcases rcase with ⟨h1, _, _⟩ | ⟨hr0, hne⟩
    · exact absurd h1 (by decide)
    subst hr0
    clear hne h82
    have hne0 : ((p.st : Int) == 0) = false := beq_false_of_ne (by omega)
    have HF := Hid.mk' (ps_fin (w := w) HW.out.2.1 rfl (Nat.le_succ _) HW.out.2.2.2.2 (RdAT.nil _) (at' 7))
    have hLs := HW.out.2.1.lies0 (n := 5) rfl
    have hHo : Holds (.agg #[.int .i64 (7), .int .i64 (0), .string (⟨#[]⟩), .string (⟨#[]⟩), .string (⟨#[]⟩)]) 5 := holds_p (at' 7)
    have hkk : k < T.size := by omega
    have hT2 : ((T[k]'hkk).toNat : Int) = 79 := hTr hkk
    clear hTr hTs
    clear h
    clear HFI HRT
    go_wp2_with fail
    refine (HST.out _).mono ?_
    rintro e w5 ⟨rfl, rfl⟩
    go_wp2_with fail
    refine (HCS.out _).mono ?_
    rintro e w5 ⟨rfl, rfl⟩
    go_wp2_with fail
    refine (HIB.out _).mono ?_
    rintro e w5 ⟨rfl, rfl⟩
    go_wp2
    exact ret_box2 Tryz.results30 39 (pcells (at' 7)) (w.heap.size + 1) _ Tryz.underlying39 rfl sizePs _ rfl rfl HF.out.1 rfl ⟨_, by rw [does_79], by rw [does_79]; exact HF.out.2.1, HF.out.2.2⟩
  · rcases rcase with ⟨h1, _, _⟩ | ⟨hr0, hne⟩
    · exact absurd h1 (by decide)
    subst hr0
    clear hne h82
    have hne0 : ((p.st : Int) == 0) = false := beq_false_of_ne (by omega)
    have HF := Hid.mk' (ps_fin (w := w) HW.out.2.1 rfl (Nat.le_succ _) HW.out.2.2.2.2 (RdAT.nil _) (at' 9))
    have hLs := HW.out.2.1.lies0 (n := 5) rfl
    have hHo : Holds (.agg #[.int .i64 (9), .int .i64 (0), .string (⟨#[]⟩), .string (⟨#[]⟩), .string (⟨#[]⟩)]) 5 := holds_p (at' 9)
    have hkk : k < T.size := by omega
    have hT2 : ((T[k]'hkk).toNat : Int) = 84 := hTr hkk
    clear hTr hTs
    clear h
    clear HFI HRT
    go_wp2_with fail
    refine (HST.out _).mono ?_
    rintro e w5 ⟨rfl, rfl⟩
    go_wp2_with fail
    refine (HCS.out _).mono ?_
    rintro e w5 ⟨rfl, rfl⟩
    go_wp2_with fail
    refine (HIB.out _).mono ?_
    rintro e w5 ⟨rfl, rfl⟩
    go_wp2
    exact ret_box2 Tryz.results30 39 (pcells (at' 9)) (w.heap.size + 1) _ Tryz.underlying39 rfl sizePs _ rfl rfl HF.out.1 rfl ⟨_, by rw [does_84], by rw [does_84]; exact HF.out.2.1, HF.out.2.2⟩
  · rcases rcase with ⟨h1, _, _⟩ | ⟨hr0, hne⟩
    · exact absurd h1 (by decide)
    subst hr0
    clear hne h82
    have hst10 : 0 ≤ (p.st : Int) ∧ (p.st : Int) ≤ 10 := by have := hp.st; omega
    have hne0 : ((p.st : Int) == 0) = false := beq_false_of_ne (by omega)
    have g0 := HW.out.1.frozen 0
    have g1 := HW.out.1.frozen 1
    have g2 := HW.out.1.frozen 2
    have g3 := HW.out.1.frozen 3
    have g4 := HW.out.1.frozen 4
    have HF := Hid.mk' (ps_fin (w := w) (box_set HW.out.2.1 (j := 0) (v := (.int .i64 ((p.st : Int) + 1))) (show w.heap.size + 1 ≠ w.heap.size from Nat.succ_ne_self _)) rfl (Nat.le_succ _) (HW.out.2.2.2.2.setCell (p := ⟨w.heap.size, 0, none⟩) (u := (.int .i64 ((p.st : Int) + 1))) (Nat.le_refl _)) (RdAT.nil _) ⟨p.st + 1, p.mark, p.inter, p.args, p.text⟩)
    have hLs := (box_set HW.out.2.1 (j := 0) (v := (.int .i64 ((p.st : Int) + 1))) (show w.heap.size + 1 ≠ w.heap.size from Nat.succ_ne_self _)).lies0 (n := 5) rfl
    have hHo : Holds (.agg #[.int .i64 ((p.st : Int) + 1), .int .i64 (p.mark), .string (bs p.inter), .string (bs p.args), .string (bs p.text)]) 5 := holds_p ⟨p.st + 1, p.mark, p.inter, p.args, p.text⟩
    have hkk : k < T.size := by omega
    have hT2 : ((T[k]'hkk).toNat : Int) = 90 := hTr hkk
    clear hTr hTs
    clear h
    clear HFI HRT
    go_wp2_with fail
    refine (HST.out _).mono ?_
    rintro e w5 ⟨rfl, rfl⟩
    go_wp2_with fail
    refine (HCS.out _).mono ?_
    rintro e w5 ⟨rfl, rfl⟩
    go_wp2_with fail
    refine (HIB.out _).mono ?_
    rintro e w5 ⟨rfl, rfl⟩
    go_wp2
    exact ret_box2 Tryz.results30 39 (pcells ⟨p.st + 1, p.mark, p.inter, p.args, p.text⟩) (w.heap.size + 1) _ Tryz.underlying39 rfl sizePs _ rfl rfl HF.out.1 rfl ⟨_, by rw [does_90], by rw [does_90]; exact HF.out.2.1, HF.out.2.2⟩
  · rcases rcase with ⟨h1, _, _⟩ | ⟨hr0, hne⟩
    · exact absurd h1 (by decide)
    subst hr0
    clear hne h82
    have hne0 : ((p.st : Int) == 0) = false := beq_false_of_ne (by omega)
    have z4 : (bs (encodeRune c)).size = (encodeRune c).length := C.bs_size _
    have hen : (encodeRune c).length ≤ 4 := U.encodeRune_len c
    by_cases hst : p.text.length + (encodeRune c).length ≤ 256
    · have hlt : ((bs p.text).size : Int) + ((bs (encodeRune c)).size : Int) ≤ 256 := by omega
      replace hst := Hid.mk' hst
      have hkk : k < T.size := by omega
      have hT2 : ((T[k]'hkk).toNat : Int) = 87 := hTr hkk
      clear hTr hTs h HFI HSG HS8
      go_wp2_with fail
      refine (HST.out _).mono ?_
      rintro e w5 ⟨rfl, rfl⟩
      go_wp2_with fail
      refine (HCS.out _).mono ?_
      rintro e w5 ⟨rfl, rfl⟩
      go_wp2_with fail
      refine (HIB.out _).mono ?_
      rintro e w5 ⟨rfl, rfl⟩
      go_wp2_with fail
      refine (HRT.out _).mono ?_
      rintro e w6 ⟨rfl, hb6⟩
      have b0 := HW.out.1.later hb6
      have c0 := b0.cell (j := 0) (v := .int .i64 (p.st : Int)) rfl
      have c1 := b0.cell (j := 1) (v := .int .i64 p.mark) rfl
      have c2 := b0.cell (j := 2) (v := .string (bs p.inter)) rfl
      have c3 := b0.cell (j := 3) (v := .string (bs p.args)) rfl
      have c4 := b0.cell (j := 4) (v := .string (bs p.text)) rfl
      have g0 := b0.frozen 0
      have g1 := b0.frozen 1
      have g2 := b0.frozen 2
      have g3 := b0.frozen 3
      have g4 := b0.frozen 4
      have HF := Hid.mk' (ps_fin (w := w) (box_set (HW.out.2.1.later hb6) (j := 4) (v := (.string (bs p.text ++ bs (encodeRune c)))) (show w.heap.size + 1 ≠ w.heap.size from Nat.succ_ne_self _)) rfl (Nat.le_succ _) ((HW.out.2.2.2.2.trans (Below.mono hb6 HW.out.2.2.2.2.size)).setCell (p := ⟨w.heap.size, 4, none⟩) (u := (.string (bs p.text ++ bs (encodeRune c)))) (Nat.le_refl _)) (RdAT.nil _) ⟨p.st, p.mark, p.inter, p.args, p.text ++ encodeRune c⟩)
      have hLs := (box_set (HW.out.2.1.later hb6) (j := 4) (v := (.string (bs p.text ++ bs (encodeRune c)))) (show w.heap.size + 1 ≠ w.heap.size from Nat.succ_ne_self _)).lies0 (n := 5) rfl
      have hHo : Holds (.agg #[.int .i64 ((p.st : Int)), .int .i64 (p.mark), .string (bs p.inter), .string (bs p.args), .string (bs p.text ++ bs (encodeRune c))]) 5 := by rw [bs_app]; exact holds_p ⟨p.st, p.mark, p.inter, p.args, p.text ++ encodeRune c⟩
      clear HRT hb6 b0 HST HCS HIB a0 a1 a2 a3 a4 y0 y1 y2 y3 y4
      go_wp2
      rw [bs_app]
      exact ret_box2 Tryz.results30 39 (pcells ⟨p.st, p.mark, p.inter, p.args, p.text ++ encodeRune c⟩) (w.heap.size + 1) _ Tryz.underlying39 rfl sizePs _ rfl rfl HF.out.1 rfl ⟨_, by rw [does_87a p c hst.out], by rw [does_87a p c hst.out]; exact HF.out.2.1, HF.out.2.2⟩
    · have hlt : ¬ ((bs p.text).size : Int) + ((bs (encodeRune c)).size : Int) ≤ 256 := by omega
      replace hst := Hid.mk' hst
      have hkk : k < T.size := by omega
      have hT2 : ((T[k]'hkk).toNat : Int) = 87 := hTr hkk
      clear hTr hTs h HFI HSG HS8
      go_wp2_with fail
      refine (HST.out _).mono ?_
      rintro e w5 ⟨rfl, rfl⟩
      go_wp2_with fail
      refine (HCS.out _).mono ?_
      rintro e w5 ⟨rfl, rfl⟩
      go_wp2_with fail
      refine (HIB.out _).mono ?_
      rintro e w5 ⟨rfl, rfl⟩
      go_wp2_with fail
      refine (HRT.out _).mono ?_
      rintro e w6 ⟨rfl, hb6⟩
      have b0 := HW.out.1.later hb6
      have c0 := b0.cell (j := 0) (v := .int .i64 (p.st : Int)) rfl
      have c1 := b0.cell (j := 1) (v := .int .i64 p.mark) rfl
      have c2 := b0.cell (j := 2) (v := .string (bs p.inter)) rfl
      have c3 := b0.cell (j := 3) (v := .string (bs p.args)) rfl
      have c4 := b0.cell (j := 4) (v := .string (bs p.text)) rfl
      have g0 := b0.frozen 0
      have g1 := b0.frozen 1
      have g2 := b0.frozen 2
      have g3 := b0.frozen 3
      have g4 := b0.frozen 4
      have HF := Hid.mk' (ps_fin (w := w) (HW.out.2.1.later hb6) rfl (Nat.le_succ _) (HW.out.2.2.2.2.trans (Below.mono hb6 HW.out.2.2.2.2.size)) (RdAT.nil _) p)
      have hLs := (HW.out.2.1.later hb6).lies0 (n := 5) rfl
      have hHo : Holds (.agg #[.int .i64 ((p.st : Int)), .int .i64 (p.mark), .string (bs p.inter), .string (bs p.args), .string (bs p.text)]) 5 := holds_p p
      clear HRT hb6 b0 HST HCS HIB a0 a1 a2 a3 a4 y0 y1 y2 y3 y4
      go_wp2
      exact ret_box2 Tryz.results30 39 (pcells p) (w.heap.size + 1) _ Tryz.underlying39 rfl sizePs _ rfl rfl HF.out.1 rfl ⟨_, by rw [does_87b p c hst.out], by rw [does_87b p c hst.out]; exact HF.out.2.1, HF.out.2.2⟩
  · rcases rcase with ⟨h1, _, _⟩ | ⟨hr0, hne⟩
    · exact absurd h1 (by decide)
    subst hr0
    clear hne h82
    have hne0 : ((p.st : Int) == 0) = false := beq_false_of_ne (by omega)
    by_cases hst : 8 < p.st
    · have hs8 : (8 : Int) < (p.st : Int) := by omega
      replace hst := Hid.mk' hst
      have HF := Hid.mk' (ps_fin (w := w) HW.out.2.1 rfl (Nat.le_succ _) HW.out.2.2.2.2 (box_act (y := gone) HW.out.2.2.1 (RdT.nil _)) p0)
      have hLs := HW.out.2.1.lies0 (n := 5) rfl
      have hHo : Holds (.agg #[.int .i64 (0), .int .i64 (0), .string (⟨#[]⟩), .string (⟨#[]⟩), .string (⟨#[]⟩)]) 5 := holds_p p0
      have hkk : k < T.size := by omega
      have hT2 : ((T[k]'hkk).toNat : Int) = 89 := hTr hkk
      clear hTr hTs
      clear h
      clear HFI HRT
      go_wp2_with fail
      refine (HST.out _).mono ?_
      rintro e w5 ⟨rfl, rfl⟩
      go_wp2_with fail
      refine (HCS.out _).mono ?_
      rintro e w5 ⟨rfl, rfl⟩
      go_wp2_with fail
      refine (HIB.out _).mono ?_
      rintro e w5 ⟨rfl, rfl⟩
      go_wp2
      exact ret_box2 Tryz.results30 39 (pcells p0) (w.heap.size + 1) _ Tryz.underlying39 rfl sizePs _ rfl rfl HF.out.1 rfl ⟨_, by rw [does_89a p c hst.out], by rw [does_89a p c hst.out]; exact HF.out.2.1, HF.out.2.2⟩
    · have hs8 : ¬ (8 : Int) < (p.st : Int) := by omega
      replace hst := Hid.mk' hst
      have hHo : Holds (.agg #[.int .i64 0, .int .i64 0, .string ⟨#[]⟩, .string ⟨#[]⟩, .string ⟨#[]⟩]) 5 := holds_p p0
      have hkk : k < T.size := by omega
      have hT2 : ((T[k]'hkk).toNat : Int) = 89 := hTr hkk
      clear hTr hTs h
      go_wp2_with fail
      refine (HST.out _).mono ?_
      rintro e w5 ⟨rfl, rfl⟩
      go_wp2_with fail
      refine (HCS.out _).mono ?_
      rintro e w5 ⟨rfl, rfl⟩
      go_wp2_with fail
      refine (HIB.out _).mono ?_
      rintro e w5 ⟨rfl, rfl⟩
      go_upto_region 58 with fail
      have hE : St w [.int .i64 (p.st : Int), .int .i64 p.mark, .string (bs p.inter), .string (bs p.args), .string (bs p.text)] w5.drew := ⟨HW.out.1.drew, ⟨_, rfl, HW.out.2.1.drew⟩, HW.out.2.2.1.drew, HW.out.2.2.2.1.drew, HW.out.2.2.2.2.drew⟩
      clear HST HCS HIB a0 a1 a2 a3 a4 y0 y1 y2 y3 y4 HRT HSG HS8
      refine wp_region_noPanic ?_
      refine wp_region_held_drew (S := fun w' => St w [.int .i64 (p.st : Int), .int .i64 p.mark, .string (bs p.inter), .string (bs p.args), .string (bs p.text)] w') (by kernel_rfl) hE (fun hHeld => ?_)
      generalize w5.drew = wd at *
      refine wpAnyH_take (i := 0) (oi := { dst := some 146, op := Go.Op.load 39 (Go.Operand.tmp 6), type := 39, pos := _, after := #[], guard := none }) (v := .agg #[.int .i64 0, .int .i64 0, .string ⟨#[]⟩, .string ⟨#[]⟩, .string ⟨#[]⟩]) rfl (by kernel_rfl) (by kernel_rfl) (by kernel_rfl) (fun _ _ _ h => h) (Or.inl ⟨by rfl, fun w' hSw => ?_⟩) (by assumption) ?_
      · exact (exec_loadP _ _ _ _ _ _ _ _ (hSw.z.lies0 rfl)).trans (congrArg (fun z : List Value => Result.ok (Next.value (.agg z.toArray)) w') (hSw.z.row0 rfl))
      (try simp only [Act.put]); (try simp only [List.setIfInBounds_toArray]); (try simp only [List.set_cons_succ]); (try simp only [List.set_cons_zero])
      refine wpAnyH_take (i := 1) (oi := { dst := some 147, op := Go.Op.fieldAddr 39 (Go.Operand.tmp 2) 4, type := 0, pos := _, after := #[{ on := 5, ground := Go.Ground.gcOnly Go.Departure.lateStores }], guard := none }) (v := .pointer (some ⟨w.heap.size, 4, none⟩)) rfl (by kernel_rfl) (by kernel_rfl) (by kernel_rfl) (fun _ _ _ h => h) (Or.inl ⟨by rfl, fun w' hSw => ?_⟩) (by assumption) ?_
      · (try dsimp only at hSw); go_simp
      (try simp only [Act.put]); (try simp only [List.setIfInBounds_toArray]); (try simp only [List.set_cons_succ]); (try simp only [List.set_cons_zero])
      refine wpAnyH_take (i := 2) (oi := { dst := some 148, op := Go.Op.load 9 (Go.Operand.tmp 147), type := 9, pos := _, after := #[{ on := 1, ground := Go.Ground.data }, { on := 5, ground := Go.Ground.gcOnly Go.Departure.lateStores }], guard := none }) (v := .string (bs p.text)) rfl (by kernel_rfl) (by kernel_rfl) (by kernel_rfl) (fun _ _ _ h => h) (Or.inl ⟨by rfl, fun w' hSw => ?_⟩) (by assumption) ?_
      · have d4 := hSw.p.cell (j := 4) (v := .string (bs p.text)) rfl
        clear hSw
        go_simp
      (try simp only [Act.put]); (try simp only [List.setIfInBounds_toArray]); (try simp only [List.set_cons_succ]); (try simp only [List.set_cons_zero])
      refine wpAnyH_take (i := 3) (oi := { dst := some 149, op := Go.Op.build 24 #[(0, Go.Operand.const (Go.Value.int Go.IntKind.i64 5)), (5, Go.Operand.tmp 148)], type := 24, pos := _, after := #[{ on := 2, ground := Go.Ground.data }, { on := 5, ground := Go.Ground.gcOnly Go.Departure.lateStores }], guard := none }) (v := .agg #[.int .i64 5, .int .i64 0, .int .i64 0, .string ⟨#[]⟩, .slice none 0 0, .string (bs p.text)]) rfl (by kernel_rfl) (by kernel_rfl) (by kernel_rfl) (fun _ _ _ h => h) (Or.inl ⟨by rfl, fun w' hSw => ?_⟩) (by assumption) ?_
      · (try dsimp only at hSw); go_simp
      (try simp only [Act.put]); (try simp only [List.setIfInBounds_toArray]); (try simp only [List.set_cons_succ]); (try simp only [List.set_cons_zero])
      refine wpAnyH_ready (rs := [4, 5]) (by kernel_rfl) (by simp) ?_
      refine AllReadyH.cons (o := { dst := some 150, op := Go.Op.buildSlice 40 1 #[(0, Go.Operand.tmp 149)], type := 40, pos := _, after := #[{ on := 3, ground := Go.Ground.data }, { on := 5, ground := Go.Ground.gcOnly Go.Departure.lateStores }], guard := none }) rfl (fun K hK => ?_) ?_
      · skip
        go_simp
        have e1 : St w [.int .i64 (p.st : Int), .int .i64 p.mark, .string (bs p.inter), .string (bs p.args), .string (bs p.text)] (wd.alloc (.cells #[.int .i64 5, .int .i64 0, .int .i64 0, .string ⟨#[]⟩, .slice none 0 0, .string (bs p.text)] 24)) := hE.alloc _
        have rd1 := Hid.mk' (one_act wd ⟨5, 0, 0, [], [], p.text⟩ _ (RdT.nil _))
        refine hK.out _ _ e1 (fun hHeld => ?_)
        clear hK K
        (try simp only [Act.put]); (try simp only [List.setIfInBounds_toArray]); (try simp only [List.set_cons_succ]); (try simp only [List.set_cons_zero])
        refine wpAnyH_ready (rs := [5]) (by kernel_rfl) (by simp) ?_
        refine AllReadyH.cons (o := { dst := none, op := Go.Op.store 39 (Go.Operand.tmp 4) (Go.Operand.tmp 146), type := 0, pos := _, after := #[{ on := 0, ground := Go.Ground.data }, { on := 0, ground := Go.Ground.phase }, { on := 1, ground := Go.Ground.textOnly Go.Departure.lateStores }, { on := 2, ground := Go.Ground.textOnly Go.Departure.lateStores }, { on := 3, ground := Go.Ground.textOnly Go.Departure.lateStores }, { on := 4, ground := Go.Ground.textOnly Go.Departure.lateStores }], guard := none }) rfl (fun K hK => ?_) ?_
        · skip
          obtain ⟨hS5, e2, sB, sK⟩ := e1.put [.int .i64 0, .int .i64 0, .string ⟨#[]⟩, .string ⟨#[]⟩, .string ⟨#[]⟩] rfl
          go_simp
          have bx2 := Hid.mk' sB
          have rd3 := Hid.mk' (rd1.out.keep sK)
          clear hS5 sB sK
          refine hK.out _ _ e2 (fun hHeld => ?_)
          clear hK K
          (try simp only [Act.put]); (try simp only [List.setIfInBounds_toArray]); (try simp only [List.set_cons_succ]); (try simp only [List.set_cons_zero])
          refine wpAnyH_take (i := 6) (oi := { dst := some 5, op := Go.Op.assign (Go.Operand.tmp 150), type := 40, pos := _, after := #[{ on := 4, ground := Go.Ground.data }, { on := 5, ground := Go.Ground.chain }, { on := 0, ground := Go.Ground.phase }, { on := 1, ground := Go.Ground.phase }, { on := 2, ground := Go.Ground.phase }, { on := 3, ground := Go.Ground.phase }, { on := 4, ground := Go.Ground.phase }, { on := 5, ground := Go.Ground.phase }], guard := none }) (v := .slice (some ⟨wd.heap.size, 0, none⟩) 1 1) rfl (by kernel_rfl) (by kernel_rfl) (by kernel_rfl) (fun _ _ _ h => h) (Or.inl ⟨by rfl, fun w' hSw => ?_⟩) (by assumption) ?_
          · (try dsimp only at hSw); go_simp
          (try simp only [Act.put]); (try simp only [List.setIfInBounds_toArray]); (try simp only [List.set_cons_succ]); (try simp only [List.set_cons_zero])
          refine wpAnyH_done (by kernel_rfl) ?_ _
          refine NoPanic.normal ?_
          have hbE := Hid.mk' e2.b
          clear e2
          go_wp2_with fail
          exact ret_box2 Tryz.results30 39 (pcells p0) (w.heap.size + 1) _ Tryz.underlying39 rfl sizePs _ rfl rfl bx2.out rfl ⟨_, by rw [does_89b p c hst.out], by rw [does_89b p c hst.out]; exact rd3.out, hbE.out⟩
        exact AllReadyH.nil
      refine AllReadyH.cons (o := { dst := none, op := Go.Op.store 39 (Go.Operand.tmp 4) (Go.Operand.tmp 146), type := 0, pos := _, after := #[{ on := 0, ground := Go.Ground.data }, { on := 0, ground := Go.Ground.phase }, { on := 1, ground := Go.Ground.textOnly Go.Departure.lateStores }, { on := 2, ground := Go.Ground.textOnly Go.Departure.lateStores }, { on := 3, ground := Go.Ground.textOnly Go.Departure.lateStores }, { on := 4, ground := Go.Ground.textOnly Go.Departure.lateStores }], guard := none }) rfl (fun K hK => ?_) ?_
      · skip
        obtain ⟨hS5, e3, sB, sK⟩ := hE.put [.int .i64 0, .int .i64 0, .string ⟨#[]⟩, .string ⟨#[]⟩, .string ⟨#[]⟩] rfl
        go_simp
        have bx4 := Hid.mk' sB
        clear hS5 sB sK
        refine hK.out _ _ e3 (fun hHeld => ?_)
        clear hK K
        (try simp only [Act.put]); (try simp only [List.setIfInBounds_toArray]); (try simp only [List.set_cons_succ]); (try simp only [List.set_cons_zero])
        refine wpAnyH_ready (rs := [4]) (by kernel_rfl) (by simp) ?_
        refine AllReadyH.cons (o := { dst := some 150, op := Go.Op.buildSlice 40 1 #[(0, Go.Operand.tmp 149)], type := 40, pos := _, after := #[{ on := 3, ground := Go.Ground.data }, { on := 5, ground := Go.Ground.gcOnly Go.Departure.lateStores }], guard := none }) rfl (fun K hK => ?_) ?_
        · skip
          go_simp
          have e4 : St w [.int .i64 (p.st : Int), .int .i64 p.mark, .string (bs p.inter), .string (bs p.args), .string (bs p.text)] ((Q.putAt wd (.pointer (some ⟨w.heap.size + 1, 0, none⟩)) (.agg #[.int .i64 0, .int .i64 0, .string ⟨#[]⟩, .string ⟨#[]⟩, .string ⟨#[]⟩])).alloc (.cells #[.int .i64 5, .int .i64 0, .int .i64 0, .string ⟨#[]⟩, .slice none 0 0, .string (bs p.text)] 24)) := e3.alloc _
          have bx5 := Hid.mk' (bx4.out.alloc (.cells #[.int .i64 5, .int .i64 0, .int .i64 0, .string ⟨#[]⟩, .slice none 0 0, .string (bs p.text)] 24))
          have rd6 := Hid.mk' (one_act (Q.putAt wd (.pointer (some ⟨w.heap.size + 1, 0, none⟩)) (.agg #[.int .i64 0, .int .i64 0, .string ⟨#[]⟩, .string ⟨#[]⟩, .string ⟨#[]⟩])) ⟨5, 0, 0, [], [], p.text⟩ _ (RdT.nil _))
          refine hK.out _ _ e4 (fun hHeld => ?_)
          clear hK K
          (try simp only [Act.put]); (try simp only [List.setIfInBounds_toArray]); (try simp only [List.set_cons_succ]); (try simp only [List.set_cons_zero])
          refine wpAnyH_take (i := 6) (oi := { dst := some 5, op := Go.Op.assign (Go.Operand.tmp 150), type := 40, pos := _, after := #[{ on := 4, ground := Go.Ground.data }, { on := 5, ground := Go.Ground.chain }, { on := 0, ground := Go.Ground.phase }, { on := 1, ground := Go.Ground.phase }, { on := 2, ground := Go.Ground.phase }, { on := 3, ground := Go.Ground.phase }, { on := 4, ground := Go.Ground.phase }, { on := 5, ground := Go.Ground.phase }], guard := none }) (v := .slice (some ⟨(Q.putAt wd (.pointer (some ⟨w.heap.size + 1, 0, none⟩)) (.agg #[.int .i64 0, .int .i64 0, .string ⟨#[]⟩, .string ⟨#[]⟩, .string ⟨#[]⟩])).heap.size, 0, none⟩) 1 1) rfl (by kernel_rfl) (by kernel_rfl) (by kernel_rfl) (fun _ _ _ h => h) (Or.inl ⟨by rfl, fun w' hSw => ?_⟩) (by assumption) ?_
          · (try dsimp only at hSw); go_simp
          (try simp only [Act.put]); (try simp only [List.setIfInBounds_toArray]); (try simp only [List.set_cons_succ]); (try simp only [List.set_cons_zero])
          refine wpAnyH_done (by kernel_rfl) ?_ _
          refine NoPanic.normal ?_
          have hbE := Hid.mk' e4.b
          clear e4
          go_wp2_with fail
          exact ret_box2 Tryz.results30 39 (pcells p0) (w.heap.size + 1) _ Tryz.underlying39 rfl sizePs _ rfl rfl bx5.out rfl ⟨_, by rw [does_89b p c hst.out], by rw [does_89b p c hst.out]; exact rd6.out, hbE.out⟩
        exact AllReadyH.nil
      exact AllReadyH.nil
  · rcases rcase with ⟨h1, _, _⟩ | ⟨hr0, hne⟩
    · exact absurd h1 (by decide)
    subst hr0
    clear hne h82
    have hne0 : ((p.st : Int) == 0) = false := beq_false_of_ne (by omega)
    have hHo : Holds (.agg #[.int .i64 0, .int .i64 0, .string ⟨#[]⟩, .string ⟨#[]⟩, .string ⟨#[]⟩]) 5 := holds_p p0
    have hkk : k < T.size := by omega
    have hT2 : ((T[k]'hkk).toNat : Int) = 70 := hTr hkk
    clear hTr hTs h
    go_wp2_with fail
    refine (HST.out _).mono ?_
    rintro e w5 ⟨rfl, rfl⟩
    go_wp2_with fail
    refine (HCS.out _).mono ?_
    rintro e w5 ⟨rfl, rfl⟩
    go_wp2_with fail
    refine (HIB.out _).mono ?_
    rintro e w5 ⟨rfl, rfl⟩
    go_upto_region 60 with fail
    have hE : St w [.int .i64 (p.st : Int), .int .i64 p.mark, .string (bs p.inter), .string (bs p.args), .string (bs p.text)] w5.drew := ⟨HW.out.1.drew, ⟨_, rfl, HW.out.2.1.drew⟩, HW.out.2.2.1.drew, HW.out.2.2.2.1.drew, HW.out.2.2.2.2.drew⟩
    clear HST HCS HIB a0 a1 a2 a3 a4 y0 y1 y2 y3 y4 HRT HSG HS8
    simp only [acells] at HFI
    refine wp_region_noPanic ?_
    refine wp_region_held_drew (S := fun w' => St w [.int .i64 (p.st : Int), .int .i64 p.mark, .string (bs p.inter), .string (bs p.args), .string (bs p.text)] w') (by kernel_rfl) hE (fun hHeld => ?_)
    generalize w5.drew = wd at *
    refine wpAnyH_take (i := 0) (oi := { dst := some 153, op := Go.Op.load 39 (Go.Operand.tmp 6), type := 39, pos := _, after := #[], guard := none }) (v := .agg #[.int .i64 0, .int .i64 0, .string ⟨#[]⟩, .string ⟨#[]⟩, .string ⟨#[]⟩]) rfl (by kernel_rfl) (by kernel_rfl) (by kernel_rfl) (fun _ _ _ h => h) (Or.inl ⟨by rfl, fun w' hSw => ?_⟩) (by assumption) ?_
    · exact (exec_loadP _ _ _ _ _ _ _ _ (hSw.z.lies0 rfl)).trans (congrArg (fun z : List Value => Result.ok (Next.value (.agg z.toArray)) w') (hSw.z.row0 rfl))
    (try simp only [Act.put]); (try simp only [List.setIfInBounds_toArray]); (try simp only [List.set_cons_succ]); (try simp only [List.set_cons_zero])
    refine wpAnyH_take (i := 1) (oi := { dst := some 154, op := Go.Op.load 39 (Go.Operand.tmp 2), type := 39, pos := _, after := #[], guard := none }) (v := .agg #[.int .i64 (p.st : Int), .int .i64 p.mark, .string (bs p.inter), .string (bs p.args), .string (bs p.text)]) rfl (by kernel_rfl) (by kernel_rfl) (by kernel_rfl) (fun _ _ _ h => h) (Or.inl ⟨by rfl, fun w' hSw => ?_⟩) (by assumption) ?_
    · exact (exec_loadP _ _ _ _ _ _ _ _ (hSw.p.lies0 rfl)).trans (congrArg (fun z : List Value => Result.ok (Next.value (.agg z.toArray)) w') (hSw.p.row0 rfl))
    (try simp only [Act.put]); (try simp only [List.setIfInBounds_toArray]); (try simp only [List.set_cons_succ]); (try simp only [List.set_cons_zero])
    refine wpAnyH_take (i := 2) (oi := { dst := some 155, op := Go.Op.move (Go.Operand.tmp 1), type := 3, pos := _, after := #[], guard := none }) (v := .int .i64 c) rfl (by kernel_rfl) (by kernel_rfl) (by kernel_rfl) (fun _ _ _ h => h) (Or.inl ⟨by rfl, fun w' hSw => ?_⟩) (by assumption) ?_
    · (try dsimp only at hSw); go_simp
    (try simp only [Act.put]); (try simp only [List.setIfInBounds_toArray]); (try simp only [List.set_cons_succ]); (try simp only [List.set_cons_zero])
    refine wpAnyH_ready (rs := [3]) (by kernel_rfl) (by simp) ?_
    refine AllReadyH.cons (o := { dst := some 156, op := Go.Op.call { callee := Go.Callee.value (Go.Operand.func 51), args := #[Go.Operand.tmp 154, Go.Operand.tmp 155], argTypes := #[39, 3] }, type := 24, pos := _, after := #[{ on := 1, ground := Go.Ground.data }, { on := 2, ground := Go.Ground.data }], guard := none }) rfl (fun K hK => ?_) ?_
    · skip
      go_simp
      refine (HFI.out wd hE.b).mono ?_
      rintro e v1 ⟨fv, rfl, hrv1, hbv1⟩
      have e1 := hE.later hbv1
      have fa1 := Hid.mk' hrv1
      clear hrv1 hbv1
      go_wp2_with fail
      refine hK.out _ _ e1 (fun hHeld => ?_)
      clear hK K
      (try simp only [Act.put]); (try simp only [List.setIfInBounds_toArray]); (try simp only [List.set_cons_succ]); (try simp only [List.set_cons_zero])
      refine wpAnyH_ready (rs := [4, 5]) (by kernel_rfl) (by simp) ?_
      refine AllReadyH.cons (o := { dst := some 157, op := Go.Op.buildSlice 40 1 #[(0, Go.Operand.tmp 156)], type := 40, pos := _, after := #[{ on := 3, ground := Go.Ground.data }, { on := 5, ground := Go.Ground.gcOnly Go.Departure.lateStores }], guard := none }) rfl (fun K hK => ?_) ?_
      · skip
        go_simp
        have e2 : St w [.int .i64 (p.st : Int), .int .i64 p.mark, .string (bs p.inter), .string (bs p.args), .string (bs p.text)] (v1.alloc (.cells #[.int .i64 (final p c).kind, .int .i64 (final p c).code, .int .i64 (final p c).mark, .string (bs (final p c).inter), fv, .string (bs (final p c).text)] 24)) := e1.alloc _
        have rd2 := Hid.mk' (one_act v1 (final p c) _ fa1.out)
        refine hK.out _ _ e2 (fun hHeld => ?_)
        clear hK K
        (try simp only [Act.put]); (try simp only [List.setIfInBounds_toArray]); (try simp only [List.set_cons_succ]); (try simp only [List.set_cons_zero])
        refine wpAnyH_ready (rs := [5]) (by kernel_rfl) (by simp) ?_
        refine AllReadyH.cons (o := { dst := none, op := Go.Op.store 39 (Go.Operand.tmp 4) (Go.Operand.tmp 153), type := 0, pos := _, after := #[{ on := 0, ground := Go.Ground.data }, { on := 3, ground := Go.Ground.chain }, { on := 0, ground := Go.Ground.phase }, { on := 1, ground := Go.Ground.textOnly Go.Departure.lateStores }, { on := 2, ground := Go.Ground.textOnly Go.Departure.lateStores }, { on := 3, ground := Go.Ground.textOnly Go.Departure.lateStoresUnsure }, { on := 4, ground := Go.Ground.textOnly Go.Departure.lateStores }], guard := none }) rfl (fun K hK => ?_) ?_
        · skip
          obtain ⟨hS5, e3, sB, sK⟩ := e2.put [.int .i64 0, .int .i64 0, .string ⟨#[]⟩, .string ⟨#[]⟩, .string ⟨#[]⟩] rfl
          go_simp
          have bx3 := Hid.mk' sB
          have rd4 := Hid.mk' (rd2.out.keep sK)
          clear hS5 sB sK
          refine hK.out _ _ e3 (fun hHeld => ?_)
          clear hK K
          (try simp only [Act.put]); (try simp only [List.setIfInBounds_toArray]); (try simp only [List.set_cons_succ]); (try simp only [List.set_cons_zero])
          refine wpAnyH_take (i := 6) (oi := { dst := some 5, op := Go.Op.assign (Go.Operand.tmp 157), type := 40, pos := _, after := #[{ on := 4, ground := Go.Ground.data }, { on := 5, ground := Go.Ground.chain }, { on := 0, ground := Go.Ground.phase }, { on := 1, ground := Go.Ground.phase }, { on := 2, ground := Go.Ground.phase }, { on := 3, ground := Go.Ground.phase }, { on := 4, ground := Go.Ground.phase }, { on := 5, ground := Go.Ground.phase }], guard := none }) (v := .slice (some ⟨v1.heap.size, 0, none⟩) 1 1) rfl (by kernel_rfl) (by kernel_rfl) (by kernel_rfl) (fun _ _ _ h => h) (Or.inl ⟨by rfl, fun w' hSw => ?_⟩) (by assumption) ?_
          · (try dsimp only at hSw); go_simp
          (try simp only [Act.put]); (try simp only [List.setIfInBounds_toArray]); (try simp only [List.set_cons_succ]); (try simp only [List.set_cons_zero])
          refine wpAnyH_done (by kernel_rfl) ?_ _
          refine NoPanic.normal ?_
          have hbE := Hid.mk' e3.b
          clear e3
          go_wp2_with fail
          exact ret_box2 Tryz.results30 39 (pcells p0) (w.heap.size + 1) _ Tryz.underlying39 rfl sizePs _ rfl rfl bx3.out rfl ⟨_, by rw [does_70 p c], by rw [does_70 p c]; exact rd4.out, hbE.out⟩
        exact AllReadyH.nil
      refine AllReadyH.cons (o := { dst := none, op := Go.Op.store 39 (Go.Operand.tmp 4) (Go.Operand.tmp 153), type := 0, pos := _, after := #[{ on := 0, ground := Go.Ground.data }, { on := 3, ground := Go.Ground.chain }, { on := 0, ground := Go.Ground.phase }, { on := 1, ground := Go.Ground.textOnly Go.Departure.lateStores }, { on := 2, ground := Go.Ground.textOnly Go.Departure.lateStores }, { on := 3, ground := Go.Ground.textOnly Go.Departure.lateStoresUnsure }, { on := 4, ground := Go.Ground.textOnly Go.Departure.lateStores }], guard := none }) rfl (fun K hK => ?_) ?_
      · skip
        obtain ⟨hS5, e4, sB, sK⟩ := e1.put [.int .i64 0, .int .i64 0, .string ⟨#[]⟩, .string ⟨#[]⟩, .string ⟨#[]⟩] rfl
        go_simp
        have bx5 := Hid.mk' sB
        have fa6 := Hid.mk' (fa1.out.keep (fun k cs fz hk => sK k cs _ fz (by decide) hk))
        clear hS5 sB sK
        refine hK.out _ _ e4 (fun hHeld => ?_)
        clear hK K
        (try simp only [Act.put]); (try simp only [List.setIfInBounds_toArray]); (try simp only [List.set_cons_succ]); (try simp only [List.set_cons_zero])
        refine wpAnyH_ready (rs := [4]) (by kernel_rfl) (by simp) ?_
        refine AllReadyH.cons (o := { dst := some 157, op := Go.Op.buildSlice 40 1 #[(0, Go.Operand.tmp 156)], type := 40, pos := _, after := #[{ on := 3, ground := Go.Ground.data }, { on := 5, ground := Go.Ground.gcOnly Go.Departure.lateStores }], guard := none }) rfl (fun K hK => ?_) ?_
        · skip
          go_simp
          have e5 : St w [.int .i64 (p.st : Int), .int .i64 p.mark, .string (bs p.inter), .string (bs p.args), .string (bs p.text)] ((Q.putAt v1 (.pointer (some ⟨w.heap.size + 1, 0, none⟩)) (.agg #[.int .i64 0, .int .i64 0, .string ⟨#[]⟩, .string ⟨#[]⟩, .string ⟨#[]⟩])).alloc (.cells #[.int .i64 (final p c).kind, .int .i64 (final p c).code, .int .i64 (final p c).mark, .string (bs (final p c).inter), fv, .string (bs (final p c).text)] 24)) := e4.alloc _
          have bx7 := Hid.mk' (bx5.out.alloc (.cells #[.int .i64 (final p c).kind, .int .i64 (final p c).code, .int .i64 (final p c).mark, .string (bs (final p c).inter), fv, .string (bs (final p c).text)] 24))
          have rd8 := Hid.mk' (one_act (Q.putAt v1 (.pointer (some ⟨w.heap.size + 1, 0, none⟩)) (.agg #[.int .i64 0, .int .i64 0, .string ⟨#[]⟩, .string ⟨#[]⟩, .string ⟨#[]⟩])) (final p c) _ fa6.out)
          refine hK.out _ _ e5 (fun hHeld => ?_)
          clear hK K
          (try simp only [Act.put]); (try simp only [List.setIfInBounds_toArray]); (try simp only [List.set_cons_succ]); (try simp only [List.set_cons_zero])
          refine wpAnyH_take (i := 6) (oi := { dst := some 5, op := Go.Op.assign (Go.Operand.tmp 157), type := 40, pos := _, after := #[{ on := 4, ground := Go.Ground.data }, { on := 5, ground := Go.Ground.chain }, { on := 0, ground := Go.Ground.phase }, { on := 1, ground := Go.Ground.phase }, { on := 2, ground := Go.Ground.phase }, { on := 3, ground := Go.Ground.phase }, { on := 4, ground := Go.Ground.phase }, { on := 5, ground := Go.Ground.phase }], guard := none }) (v := .slice (some ⟨(Q.putAt v1 (.pointer (some ⟨w.heap.size + 1, 0, none⟩)) (.agg #[.int .i64 0, .int .i64 0, .string ⟨#[]⟩, .string ⟨#[]⟩, .string ⟨#[]⟩])).heap.size, 0, none⟩) 1 1) rfl (by kernel_rfl) (by kernel_rfl) (by kernel_rfl) (fun _ _ _ h => h) (Or.inl ⟨by rfl, fun w' hSw => ?_⟩) (by assumption) ?_
          · (try dsimp only at hSw); go_simp
          (try simp only [Act.put]); (try simp only [List.setIfInBounds_toArray]); (try simp only [List.set_cons_succ]); (try simp only [List.set_cons_zero])
          refine wpAnyH_done (by kernel_rfl) ?_ _
          refine NoPanic.normal ?_
          have hbE := Hid.mk' e5.b
          clear e5
          go_wp2_with fail
          exact ret_box2 Tryz.results30 39 (pcells p0) (w.heap.size + 1) _ Tryz.underlying39 rfl sizePs _ rfl rfl bx7.out rfl ⟨_, by rw [does_70 p c], by rw [does_70 p c]; exact rd8.out, hbE.out⟩
        exact AllReadyH.nil
      exact AllReadyH.nil
    exact AllReadyH.nil
  · exact absurd rfl h82
end Go.Proofs.YtneiiinheimglaaGreatDoor.B
