/-
  The walk of farlaw.ParseWrites: it returns true; conditions: the tables of unicode/utf8 and internal/strconv.uint64pow10 hold what their initialisers lay, the variable internal/bytealg.MaxLen holds an int; texts and numbers of at most 2^20.
-/
import Derived.Test.YtneiiinheimglaaGreatDoorBActR
namespace Go.Proofs.YtneiiinheimglaaGreatDoor.B
open Go.RowKit Go.Lib Go.Proofs.YtneiiinheimglaaGreatDoor Go.Proofs.YtneiiinheimglaaGreatDoor.W Go.Proofs.YtneiiinheimglaaGreatDoor.Q Go.Proofs.YtneiiinheimglaaGreatDoor.C Go.Proofs.YtneiiinheimglaaGreatDoor.Z

set_option maxHeartbeats 8000000 in
set_option maxRecDepth 100000 in
theorem ParseWrites_any (y : Ac) (vy : Value) (m : Int) (w : World) (hv : RdI w vy y.args) (hT : Tab w) (hU : U.Tabs w) (hm : w.cell? ⟨2, 0, none⟩ = some (.int .i64 m)) (hin : y.inter.length ≤ 1048576) (htx : y.text.length ≤ 1048576) (har : y.args.length ≤ 1048576) :
    Calls Tryz.prog 3 #[.agg #[.int .i64 y.kind, .int .i64 y.code, .int .i64 y.mark, .string (bs y.inter), vy, .string (bs y.text)]] w fun e w' => e = .returned (.bool true) ∧ Below w.heap.size w w' := by
  -- what parse.Write answers
  have HW : Hid (∀ W, Below w.heap.size w W → Calls Tryz.prog 4 #[.agg #[.int .i64 y.kind, .int .i64 y.code, .int .i64 y.mark, .string (bs y.inter), vy, .string (bs y.text)]] W fun e w' => ∃ a1 n1 c1 r1, e = .returned (.tuple #[.slice a1 n1 c1, .int .i64 r1]) ∧ RdI w' (.slice a1 n1 c1) (if wA y = true then wL y else []) ∧ r1 = (if wA y = true then 0 else 1) ∧ Below W.heap.size W w') := fun W hW => by
    by_cases h : wA y = true
    · rw [if_pos h, if_pos h]
      refine (PWrite_ok y.kind y.code y.mark y.inter y.args y.text vy W (hv.below hW) (hT.below hW) (hU.below hW) hin htx har ((wA_iff y).1 h)).mono ?_
      rintro e w' ⟨v2, rfl, ho, hb⟩
      obtain ⟨ra, rc, re⟩ := OwnI.form ho
      subst re
      exact ⟨_, _, _, 0, rfl, RdI.own ho, rfl, hb⟩
    · rw [if_neg h, if_neg h]
      refine (PWrite_no y.kind y.code y.mark y.inter y.args y.text vy W (hv.below hW) (hT.below hW) (hU.below hW) hin htx har (Bool.eq_false_iff.2 h)).mono ?_
      rintro e w' ⟨rfl, hb⟩
      exact ⟨none, 0, 0, 1, rfl, ⟨_, _, rfl, Nat.le_refl _, .inl rfl⟩, rfl, hb⟩
  -- .. and farref.ActRunes
  have HA : Hid (∀ W, Below w.heap.size w W → Calls Tryz.prog 5 #[.agg #[.int .i64 y.kind, .int .i64 y.code, .int .i64 y.mark, .string (bs y.inter), vy, .string (bs y.text)]] W fun e w' => ∃ a1 n1 c1 r1, e = .returned (.tuple #[.slice a1 n1 c1, .int .i64 r1]) ∧ RdI w' (.slice a1 n1 c1) (if wA y = true then wL y else []) ∧ r1 = (if wA y = true then 0 else 1) ∧ Below W.heap.size W w') := fun W hW => by
    refine (ActRunes_any y vy m W (hv.below hW) ((hW.cell (p := ⟨2, 0, none⟩) (World.block_lt_of_cell? _ _ hm)).trans hm) hin htx har).mono ?_
    rintro e w' ⟨v2, h1, h2, hb⟩
    by_cases h : wA y = true
    · rw [if_pos h, if_pos h]
      obtain ⟨he, hr⟩ := h1 ((wA_iff y).1 h)
      obtain ⟨a1, c1, rfl, h3⟩ := id hr
      exact ⟨_, _, _, 0, he, hr, rfl, hb⟩
    · rw [if_neg h, if_neg h]
      exact ⟨none, 0, 0, 1, h2 (fun h3 => h ((wA_iff y).2 h3)), ⟨_, _, rfl, Nat.le_refl _, .inl rfl⟩, rfl, hb⟩
  have HLN : Hid ((if wA y = true then wL y else []).length ≤ 1000000000) := by
    rw [Hid]
    by_cases h : wA y = true
    · rw [if_pos h]; have := wL_len ((wA_iff y).1 h); omega
    · rw [if_neg h]; exact Nat.zero_le _
  generalize (if wA y = true then wL y else []) = L at *
  generalize (if wA y = true then (0 : Int) else 1) = R at *
  have HS := Hid.mk' (fun W v1 v2 (h1 : RdI W v1 L) (h2 : RdI W v2 L) => Equal_gen W v1 v2 L L h1 h2 HLN.out HLN.out)
  rw [beq_self_eq_true] at HS
  have hA0 : Below w.heap.size w (w.alloc (.cells #[.int .i64 y.kind, .int .i64 y.code, .int .i64 y.mark, .string (bs y.inter), vy, .string (bs y.text)] 24)) := (Below.refl _ _).alloc (Nat.le_refl _) _
  have X0 := Box.new w 24 [.int .i64 y.kind, .int .i64 y.code, .int .i64 y.mark, .string (bs y.inter), vy, .string (bs y.text)]
  obtain ⟨ad, cp, rfl, hv2⟩ := hv
  clear hv2 hT hU hm hin htx har
  generalize bs y.inter = SI at *
  generalize bs y.text = ST at *
  generalize y.args.length = n at *
  generalize y.kind = kd at *
  generalize y.code = cd at *
  generalize y.mark = mk at *
  have c0 := X0.cell (j := 0) (v := .int .i64 kd) rfl
  have c1 := X0.cell (j := 1) (v := .int .i64 cd) rfl
  have c2 := X0.cell (j := 2) (v := .int .i64 mk) rfl
  have c3 := X0.cell (j := 3) (v := .string SI) rfl
  have c4 := X0.cell (j := 4) (v := .slice ad n cp) rfl
  have c5 := X0.cell (j := 5) (v := .string ST) rfl
  have HX0 := Hid.mk' (And.intro X0 hA0)
  clear X0 hA0
  go_enter Tryz.func3, Tryz.ntmps3
  go_wp2_with fail
  refine (HW.out _ HX0.out.2).mono ?_
  rintro e w2 ⟨a1, n1, k1, r1, rfl, hr1, hq1, hb2⟩
  subst hq1
  have HX2 := Hid.mk' (And.intro (HX0.out.1.later hb2) (HX0.out.2.trans (Below.mono hb2 HX0.out.2.size)))
  have HR1 := Hid.mk' hr1
  clear hr1 hb2 HX0 HW c0 c1 c2 c3 c4 c5
  have c0 := HX2.out.1.cell (j := 0) (v := .int .i64 kd) rfl
  have c1 := HX2.out.1.cell (j := 1) (v := .int .i64 cd) rfl
  have c2 := HX2.out.1.cell (j := 2) (v := .int .i64 mk) rfl
  have c3 := HX2.out.1.cell (j := 3) (v := .string SI) rfl
  have c4 := HX2.out.1.cell (j := 4) (v := .slice ad n cp) rfl
  have c5 := HX2.out.1.cell (j := 5) (v := .string ST) rfl
  go_wp2_with fail
  refine (HA.out _ HX2.out.2).mono ?_
  rintro e w3 ⟨a2, n2, k2, r2, rfl, hr2, hq2, hb3⟩
  subst hq2
  have HB3 := Hid.mk' (HX2.out.2.trans (Below.mono hb3 HX2.out.2.size))
  have HC := Hid.mk' (HS.out w3 _ _ (HR1.out.below hb3) hr2)
  clear hr2 hb3 HX2 HA HR1 HS HLN c0 c1 c2 c3 c4 c5
  go_wp2_with fail
  refine HC.out.mono ?_
  rintro e w4 ⟨rfl, hb4⟩
  have HB4 := Hid.mk' (HB3.out.trans (Below.mono hb4 HB3.out.size))
  clear hb4 HC HB3
  go_wp2
  go_ret
  exact ⟨rfl, HB4.out⟩
end Go.Proofs.YtneiiinheimglaaGreatDoor.B
