/-
  Contract of farkeep.lineLives: it returns true. No condition.
-/
import Derived.Test.YtomgnnbcaficaaaDoorLKeys
import Derived.Test.YtomgnnbcaficaaaDoorWEqs
namespace Go.Proofs.YtomgnnbcaficaaaDoor.L
open Go.RowKit Go.Lib Go.Proofs.YtomgnnbcaficaaaDoor Go.Proofs.YtomgnnbcaficaaaDoor.W Go.Proofs.YtomgnnbcaficaaaDoor.Q

theorem OwnL.rd {w : World} {base : Nat} {al : Option Addr} {cl : Nat} {l : List (List UInt8)} (h : OwnL w base al cl l) : RdS w (.slice al l.length cl) (l.map bs) := by
  have h2 : OwnS w base al cl (l.map bs) := by
    unfold OwnS
    unfold OwnL at h
    rw [List.length_map]
    have e : W.scells (l.map bs) = scells l := by simp [W.scells, scells]
    rw [e]
    exact h
  have := h2.rd
  rwa [List.length_map] at this
theorem OwnL.below {w w' : World} {base : Nat} {al : Option Addr} {cl : Nat} {l : List (List UInt8)} (h : OwnL w base al cl l) (hb : Below w.heap.size w w') : OwnL w' base al cl l := keptBy h hb

theorem live_typed : typeT (comK 5) H.noW [] false [108, 120, 127, 115, 32, 45, 108, 13, 120] = (⟨[120], false, [[108, 115, 32, 45, 108, 13]], [108, 120, 8, 32, 8, 115, 32, 45, 108, 13, 120]⟩, 0) := by kernel_rfl
theorem noW_ok : H.okW H.noW := ⟨rfl, by decide⟩
theorem buildE (w : World) : (Instr.build 23 #[]).run Tryd.prog w = .ok (.agg (edCells ⟨#[]⟩ false).toArray) w := by kernel_rfl
theorem buildM (w : World) : (Instr.build 30 #[]).run Tryd.prog w = .ok (.agg (H.ucells H.noW).toArray) w := by kernel_rfl
section
variable {P : Program} {ops : Array Oper} {rest : List Oper} {op : Oper} {a : Act} {w : World} {Q : Exit → Act → World → Prop}
/-- a struct that is built of nothing -/
theorem wpList_build0 (l : List Value) (ty : TypeId) (hb : (Instr.build ty #[]).run P w = .ok (.agg l.toArray) w) (hgd : op.guard = none) (ho : op.op = .build ty #[])
    (h : wpList P ops Q rest (a.put op.dst (.agg l.toArray)) w) : wpList P ops Q (op :: rest) a w :=
  wpList_plain hgd fun _ hK => by
    unfold Oper.wp execOp
    simp only [ho, List.map_toArray, List.map_nil, hb, Sem.run_bind, Sem.run_pure, Result.andThen_ok]
    exact hK _ _ h
end

set_option maxHeartbeats 8000000 in
set_option maxRecDepth 100000 in
theorem lives_any (w : World) : Calls Tryd.prog 13 #[] w fun e w' => e = .returned (.bool true) ∧ Below w.heap.size w w' := by
  have HE := Hid.mk' buildE
  have HM := Hid.mk' buildM
  have HK := Hid.mk' (lineKeys_any w)
  have HT : Hid (∀ w, Calls Tryd.prog 9 #[.agg (edCells ⟨#[]⟩ false).toArray, .agg (bcells (comK 5)).toArray, .agg (H.ucells H.noW).toArray, .string { data := #[108, 120, 127, 115, 32, 45, 108, 13, 120] }] w fun e w' =>
      ∃ al cl, e = .returned (.tuple #[.agg #[.string { data := #[120] }, .bool false], .slice al 1 cl, .string { data := #[108, 120, 8, 32, 8, 115, 32, 45, 108, 13, 120] }, .int .i64 0]) ∧ RdS w' (.slice al 1 cl) [{ data := #[108, 115, 32, 45, 108, 13] }] ∧ Below w.heap.size w w') := fun w => by
    refine (Type_any (comK 5) (comK_len 5 (Nat.le_refl _)) H.noW noW_ok [] [108, 120, 127, 115, 32, 45, 108, 13, 120] false w).mono fun e w' h => ?_
    rw [live_typed] at h
    obtain ⟨al, cl, h1, h2, h3⟩ := h
    exact ⟨al, cl, h1, h2.rd, h3⟩
  have HQ := Hid.mk' (fun (W : World) (v1 v2 : Value) h1 h2 => Equal_same W v1 v2 [{ data := #[108, 115, 32, 45, 108, 13] }] h1 h2 (by decide))
  generalize hE : edCells ⟨#[]⟩ false = E at *
  generalize hm : H.ucells H.noW = m at *
  clear hE hm
  unfold K.KV at HK
  generalize bcells (comK 5) = l at *
  go_enter Tryd.func13, Tryd.ntmps13
  go_wp2_with (refine wpList_build0 E 23 (HE.out _) rfl rfl ?_)
  refine HK.out.mono ?_
  rintro e w1 ⟨rfl, h1⟩
  go_wp2_with (refine wpList_build0 m 30 (HM.out _) rfl rfl ?_)
  refine (HT.out _).mono ?_
  rintro e w2 ⟨al, cl, rfl, hr, h2⟩
  have HB2 := Hid.mk' (Below.trans h1 (Below.mono h2 h1.size))
  have HR := Hid.mk' hr
  clear h1 h2 hr HT HK HE HM
  have HLIT : Hid (∀ W : World, RdS (W.alloc (.cells #[.string { data := #[108, 115, 32, 45, 108, 13] }] 9)) (.slice (some ⟨W.heap.size, 0, none⟩) 1 1) [{ data := #[108, 115, 32, 45, 108, 13] }]) := fun W => RdS.box (l := [{ data := #[108, 115, 32, 45, 108, 13] }]) (Box.new W 9 [.string { data := #[108, 115, 32, 45, 108, 13] }]) 1 (Nat.le_refl _)
  have HR2 : Hid (∀ o1 o2, RdS ((w2.alloc o1).alloc o2) (.slice al 1 cl) [{ data := #[108, 115, 32, 45, 108, 13] }]) := fun o1 o2 => HR.out.below (((Below.refl _ w2).alloc (Nat.le_refl _) o1).alloc (by simp) o2)
  have HB3 : Hid (∀ o1 o2, Below w.heap.size w ((w2.alloc o1).alloc o2)) := fun o1 o2 => (HB2.out.alloc HB2.out.size o1).alloc (by have := HB2.out.size; simp; omega) o2
  clear HR HB2
  go_wp2_with fail
  refine (HQ.out _ _ _ (HR2.out _ _) (by have h := HLIT.out (w2.alloc (.cells #[.string { data := #[120] }, .bool false] 23)); simpa using h)).mono ?_
  rintro e w4 ⟨rfl, n4, rfl⟩
  go_wp2
  go_ret
  exact ⟨rfl, below_drewN (HB3.out _ _) _⟩
end Go.Proofs.YtomgnnbcaficaaaDoor.L
