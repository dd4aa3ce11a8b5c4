/-
  Contracts of package parse's reader: end, ignore, putInter, putArgs, the closure that abandons; condition: at most 2^40 acts.
-/
import Derived.Test.YtneiiinheimglaaDoorBTell
namespace Go.Proofs.YtneiiinheimglaaDoor.B
open Go.RowKit Go.Lib Go.Proofs.YtneiiinheimglaaDoor Go.Proofs.YtneiiinheimglaaDoor.W Go.Proofs.YtneiiinheimglaaDoor.Q Go.Proofs.YtneiiinheimglaaDoor.C Go.Proofs.YtneiiinheimglaaDoor.Z

attribute [local go_sem ↓] exec_loadA
theorem enc_small {c : Int} (h0 : 0 ≤ c) (h1 : c < 128) : Utf8.encode c = bs [sg c] := by
  have hv : Utf8.valid c = true := by unfold Utf8.valid; simp; omega
  have hc : c.toNat < 128 := by omega
  unfold Utf8.encode
  simp only [hv, if_true, hc]
  rfl

/-- the parser's cells are written -/
theorem wpList_setP {ops : Array Oper} {rest : List Oper} {op : Oper} {a : Act} {Q : Exit → Act → World → Prop} {base : Nat} {w : World} {b bb : Nat} {p : Ps} {L : List Ac} (h : PX base w b bb p L) (q : Ps)
    (hgd : op.guard = none) (x y : Operand) (ho : op.op = .store 23 x y) (hx : a.eval x = .pointer (some ⟨b, 0, none⟩)) (hy : a.eval y = .agg #[.int .i64 (q.st : Int), .int .i64 q.mark, .string (bs q.inter), .string (bs q.args), .string (bs q.text)])
    (next : ∀ w', PX base w' b bb q L → Fr base w w' → wpList Tryd.prog ops Q rest (a.put op.dst undef) w') : wpList Tryd.prog ops Q (op :: rest) a w := by
  obtain ⟨ad, cap, xs, e, h⟩ := h
  refine wpList_store_part 23 41 (rcells p (.slice ad xs.length cap)) [.int .i64 (q.st : Int), .int .i64 q.mark, .string (bs q.inter), .string (bs q.args), .string (bs q.text)] b 0 sizePs ?_ h.box (by simp [rcells]) hgd x y ho hx hy ?_
  · intro v hv
    simp only [List.mem_cons, List.mem_nil_iff, or_false] at hv
    rcases hv with rfl | rfl | rfl | rfl | rfl <;> rfl
  · intro w' hS
    exact next w' ⟨ad, cap, xs, e, h.put hS.box hS.other⟩ (fun B W hB hW => hS.below B W (by have := h.lo; omega) hW)

set_option maxHeartbeats 4000000 in
set_option maxRecDepth 100000 in
theorem end_any (base b bb : Nat) (p : Ps) (L : List Ac) (y : Ac) (vy : Value) (w : World) (h : PX base w b bb p L) (hv : RdT w vy y.args) (hn : L.length ≤ 1099511627776) :
    Calls Tryd.prog 67 #[.pointer (some ⟨b, 0, none⟩), .agg (acells y vy).toArray] w fun e w' => e = .returned (.tuple #[]) ∧ PX base w' b bb p0 (L ++ [y]) ∧ Fr base w w' := by
  have hlt : b < w.heap.size := by
    obtain ⟨ad, cap, xs, e, h⟩ := h
    exact h.lt
  have H := Hid.mk' (fun w1 (m1 : Made w w1 35 (acells y vy)) => show PX base w1 b bb p L ∧ RdT w1 vy y.args ∧ Fr base w w1 from by
    have hb := h.base_le
    refine ⟨?_, hv.keep (fun k cs fz hk => (m1.other k (Array.getElem?_eq_some_iff.1 hk).1).trans hk), fun B W hB hW => m1.below B W (by omega) hW⟩
    obtain ⟨ad, cap, xs, e, h⟩ := h
    exact ⟨ad, cap, xs, e, h.move m1.other⟩)
  clear h hv
  go_enter Tryd.func67, Tryd.ntmps67
  go_wp2_with (first | (refine wpList_box (acells y vy) _ rfl _ rfl rfl ?_; intro w1 m1) | (refine wpList_load_box 35 35 (acells y vy) w.heap.size _ Tryd.underlying35 rfl sizeAct (Made.box (by assumption)) rfl _ rfl rfl ?_))
  obtain ⟨h1, v1, F1⟩ := H.out w1 m1
  have HT := Hid.mk' (tell_any base b bb p L y vy w1 h1 v1 hn)
  clear H h1 v1 m1
  refine HT.out.mono ?_
  rintro e w2 ⟨rfl, h2, F2⟩
  have H2 := Hid.mk' h2
  have F12 := Hid.mk' (F1.trans F2)
  clear HT h2 F1 F2
  go_wp2_with (refine wpList_setP H2.out p0 rfl _ _ rfl rfl rfl ?_; intro w3 h3 F3)
  have H3 := Hid.mk' (And.intro h3 (F12.out.trans F3))
  clear h3 F3 F12 H2
  go_end0
  exact ⟨rfl, H3.out⟩

set_option maxHeartbeats 4000000 in
set_option maxRecDepth 100000 in
theorem ignore_any (base b bb : Nat) (p : Ps) (L : List Ac) (w : World) (h : PX base w b bb p L) :
    Calls Tryd.prog 104 #[.pointer (some ⟨b, 0, none⟩)] w fun e w' => e = .returned (.tuple #[]) ∧ PX base w' b bb (at' 6) L ∧ Fr base w w' := by
  have H2 := Hid.mk' h
  clear h
  go_enter Tryd.func104, Tryd.ntmps104
  go_wp2_with (refine wpList_setP H2.out (at' 6) rfl _ _ rfl rfl rfl ?_; intro w3 h3 F3)
  have H3 := Hid.mk' (And.intro h3 F3)
  clear h3 F3 H2
  go_end0
  exact ⟨rfl, H3.out⟩

set_option maxHeartbeats 4000000 in
set_option maxRecDepth 100000 in
theorem abandon_any (base b bb : Nat) (p : Ps) (L : List Ac) (n : Nat) (w : World) (h : PX base w b bb p L) (hn : L.length ≤ 1099511627776) :
    Calls Tryd.prog 22 #[.int .i64 (n : Int), .pointer (some ⟨bb, 0, none⟩)] w fun e w' => e = .returned (.tuple #[]) ∧ PX base w' b bb (at' n) (L ++ (if p.st = 0 then [] else [gone])) ∧ Fr base w w' := by
  obtain ⟨ad, cap, xs, e, h⟩ := h
  have c0 := h.c0
  have cb := h.cb
  have hp : PX base w b bb p L := ⟨ad, cap, xs, e, h⟩
  have HT := Hid.mk' (show Calls Tryd.prog 23 #[.pointer (some ⟨b, 0, none⟩), .agg #[.int .i64 6, .int .i64 0, .int .i64 0, .string ⟨#[]⟩, .slice none 0 0, .string ⟨#[]⟩]] w fun e w' => e = .returned (.tuple #[]) ∧ PX base w' b bb p (L ++ [gone]) ∧ Fr base w w' from tell_any base b bb p L gone (.slice none 0 0) w hp (RdT.nil w) hn)
  by_cases h0 : p.st = 0
  · have h0' : (p.st : Int) = 0 := by omega
    rw [if_pos h0, List.append_nil]
    have H2 := Hid.mk' hp
    clear h hp HT
    go_enter Tryd.func22, Tryd.ntmps22
    go_wp2_with (refine wpList_setP H2.out (at' n) rfl _ _ rfl rfl rfl ?_; intro w3 h3 F3)
    have H3 := Hid.mk' (And.intro h3 F3)
    clear h3 F3 H2
    go_end0
    exact ⟨rfl, H3.out⟩
  · have h0' : ¬ (p.st : Int) = 0 := by omega
    have h0b : ((p.st : Int) == 0) = false := beq_false_of_ne h0'
    rw [if_neg h0]
    clear h hp
    go_enter Tryd.func22, Tryd.ntmps22
    go_wp2_with fail
    refine HT.out.mono ?_
    rintro e w2 ⟨rfl, h2, F2⟩
    have cb2 : w2.cell? ⟨bb, 0, none⟩ = some (.pointer (some ⟨b, 0, none⟩)) := by
      obtain ⟨_, _, _, _, h⟩ := h2
      exact h.cb
    have H2 := Hid.mk' h2
    have HF := Hid.mk' F2
    clear HT h2 F2 c0 cb
    go_wp2_with (refine wpList_setP H2.out (at' n) rfl _ _ rfl rfl rfl ?_; intro w3 h3 F3)
    have H3 := Hid.mk' (And.intro h3 (HF.out.trans F3))
    clear h3 F3 H2
    go_end0
    exact ⟨rfl, H3.out⟩

set_option maxHeartbeats 4000000 in
set_option maxRecDepth 100000 in
theorem putInter_any (base b bb : Nat) (p : Ps) (L : List Ac) (c : Int) (w : World) (h : PX base w b bb p L) (h0 : 0 ≤ c) (h1 : c < 128) :
    Calls Tryd.prog 100 #[.pointer (some ⟨b, 0, none⟩), .int .i64 c] w fun e w' => e = .returned (.tuple #[]) ∧ PX base w' b bb (if p.inter.length < 3 then ⟨p.st, p.mark, p.inter ++ [sg c], p.args, p.text⟩ else p) L ∧ Fr base w w' := by
  obtain ⟨ad, cap, xs, e, h⟩ := h
  have c2 := h.c2
  have f2 := h.fr 2
  have hsz := C.bs_size p.inter
  have HE := enc_small h0 h1
  have hT : (bs [sg c]).size = 1 := rfl
  by_cases h3 : p.inter.length < 3
  · have h3' : ((bs p.inter).size : Int) < 3 := by omega
    rw [if_pos h3]
    have H3 : Hid (PX base (w.setCell ⟨b, 2, none⟩ (.string (bs p.inter ++ bs [sg c]))) b bb ⟨p.st, p.mark, p.inter ++ [sg c], p.args, p.text⟩ L ∧ Fr base w (w.setCell ⟨b, 2, none⟩ (.string (bs p.inter ++ bs [sg c])))) := by
      refine ⟨⟨ad, cap, xs, e, h.set 2 _ ?_⟩, h.frSet 2 _⟩
      rw [C.bs_app]; rfl
    clear h e
    generalize bs p.inter = S at *
    generalize bs [sg c] = T at *
    go_enter Tryd.func100, Tryd.ntmps100
    go_wp2
    go_end0
    exact ⟨rfl, H3.out⟩
  · have h3' : ¬ ((bs p.inter).size : Int) < 3 := by omega
    rw [if_neg h3]
    have H3 : Hid (PX base w b bb p L ∧ Fr base w w) := ⟨⟨ad, cap, xs, e, h⟩, Fr.refl _ _⟩
    clear h e
    generalize bs p.inter = S at *
    go_enter Tryd.func100, Tryd.ntmps100
    go_wp2
    go_end0
    exact ⟨rfl, H3.out⟩

set_option maxHeartbeats 4000000 in
set_option maxRecDepth 100000 in
theorem putArgs_any (base b bb : Nat) (p : Ps) (L : List Ac) (c : Int) (w : World) (h : PX base w b bb p L) (h0 : 0 ≤ c) (h1 : c < 128) :
    Calls Tryd.prog 102 #[.pointer (some ⟨b, 0, none⟩), .int .i64 c] w fun e w' => e = .returned (.tuple #[]) ∧ PX base w' b bb ⟨p.st, p.mark, p.inter, if p.args.length < 100 then p.args ++ [sg c] else p.args, p.text⟩ L ∧ Fr base w w' := by
  obtain ⟨ad, cap, xs, e, h⟩ := h
  have c3 := h.c3
  have f3 := h.fr 3
  have hsz := C.bs_size p.args
  have HE := enc_small h0 h1
  have hT : (bs [sg c]).size = 1 := rfl
  by_cases h3 : p.args.length < 100
  · have h3' : ((bs p.args).size : Int) < 100 := by omega
    rw [if_pos h3]
    have H3 : Hid (PX base (w.setCell ⟨b, 3, none⟩ (.string (bs p.args ++ bs [sg c]))) b bb ⟨p.st, p.mark, p.inter, p.args ++ [sg c], p.text⟩ L ∧ Fr base w (w.setCell ⟨b, 3, none⟩ (.string (bs p.args ++ bs [sg c])))) := by
      refine ⟨⟨ad, cap, xs, e, h.set 3 _ ?_⟩, h.frSet 3 _⟩
      rw [C.bs_app]; rfl
    clear h e
    generalize bs p.args = S at *
    generalize bs [sg c] = T at *
    go_enter Tryd.func102, Tryd.ntmps102
    go_wp2
    go_end0
    exact ⟨rfl, H3.out⟩
  · have h3' : ¬ ((bs p.args).size : Int) < 100 := by omega
    rw [if_neg h3]
    have H3 : Hid (PX base w b bb p L ∧ Fr base w w) := ⟨⟨ad, cap, xs, e, h⟩, Fr.refl _ _⟩
    clear h e
    generalize bs p.args = S at *
    go_enter Tryd.func102, Tryd.ntmps102
    go_wp2
    go_end0
    exact ⟨rfl, H3.out⟩
end Go.Proofs.YtneiiinheimglaaDoor.B
