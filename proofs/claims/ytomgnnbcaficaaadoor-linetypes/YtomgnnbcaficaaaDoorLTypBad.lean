/-
  Contract of farref.Typing: what line.Type tells; conditions: Keys of 38 bytes, a set of four words of 64 bits.
-/
import Derived.Test.YtomgnnbcaficaaaDoorLTypedRef
import Derived.Test.YtomgnnbcaficaaaDoorLCutsWalk
import Derived.Deep.RegionHeld3
namespace Go.Proofs.YtomgnnbcaficaaaDoor.L
open Go.RowKit Go.Lib Go.Proofs.YtomgnnbcaficaaaDoor Go.Proofs.YtomgnnbcaficaaaDoor.W Go.Proofs.YtomgnnbcaficaaaDoor.Q

theorem exec_ldK (ρ : Operand → Value) (x : Operand) (dst : Option Tmp) (t : TypeId) (pos : String) (af : Array Edge) (g : Option (Nat × Bool)) (w : World) (h : Lies w (ρ x) 38) :
    (execOp ρ { dst := dst, op := .load 26 x, type := t, pos := pos, after := af, guard := g }).run Tryd.prog w = .ok (.value (.agg (Q.rowAt w (ρ x) 38).toArray)) w :=
  exec_load 26 38 _ Tryd.underlying26 rfl K.sizeK ρ x dst t pos af g w h
theorem exec_ldM (ρ : Operand → Value) (x : Operand) (dst : Option Tmp) (t : TypeId) (pos : String) (af : Array Edge) (g : Option (Nat × Bool)) (w : World) (h : Lies w (ρ x) 4) :
    (execOp ρ { dst := dst, op := .load 30 x, type := t, pos := pos, after := af, guard := g }).run Tryd.prog w = .ok (.value (.agg (Q.rowAt w (ρ x) 4).toArray)) w :=
  exec_load 30 4 _ Tryd.underlying30 rfl H.sizeM ρ x dst t pos af g w h

/-- what is sent: nothing, or a line with a byte in it -/
theorem sent_one (K : Ks) (e : Ed) (b : UInt8) : (step K e b).sent = [] ∨ ∃ x, x ≠ [] ∧ (step K e b).sent = [x] := by
  unfold step put gone
  repeat' split
  all_goals first | exact .inl rfl | exact .inr ⟨_, by simp, rfl⟩
/-- the two boxes that stay -/
def SB (b1 b2 : Nat) (l m : List Value) (w : World) : Prop := Box w b1 26 l ∧ Box w b2 30 m
theorem SB.later {b1 b2 : Nat} {l m : List Value} {w w' : World} (h : SB b1 b2 l m w) (hb : Below w.heap.size w w') : SB b1 b2 l m w' := ⟨h.1.later hb, h.2.later hb⟩
theorem SB.set {b1 b2 : Nat} {l m : List Value} {w : World} (h : SB b1 b2 l m w) (b j : Nat) (v : Value) (h1 : b1 ≠ b) (h2 : b2 ≠ b) : SB b1 b2 l m (w.setCell ⟨b, j, none⟩ v) := ⟨h.1.kept (setCell_other _ _ _ _ h1), h.2.kept (setCell_other _ _ _ _ h2)⟩
def TSt (w : World) (b1 b2 b3 base : Nat) (l m : List Value) (z0 z1 : Value) (s : S) (n : Nat) (v12 v13 : Value) (wr : World) : Prop :=
  ∃ al nl cl, v12 = .slice al nl cl ∧ v13 = .string (bs s.echo) ∧ Hid (nl = s.ls.length) ∧ Hid (OwnR wr base 9 1 (.slice al nl cl) nl (scells s.ls)) ∧ Hid (Box wr w.heap.size 23 [.string (bs s.buf), .bool s.q]) ∧ Hid (SB b1 b2 l m wr) ∧ Hid (Box wr b3 23 [z0, z1]) ∧ Hid (room s n) ∧ Hid (Below w.heap.size w wr) ∧ base ≤ wr.heap.size

set_option maxHeartbeats 8000000 in
set_option maxRecDepth 100000 in
theorem Typing_long (k : List UInt8) (M : List Nat) (B T : List UInt8) (q : Bool) (w : World) (hB : 1024 ≤ B.length) (hr : ref B.length k T.length = 2) :
    Calls Tryd.prog 10 #[EV (bs B) q, K.KV k, H.MV M, .string (bs T)] w fun e w' => Typ w (⟨B, q, [], []⟩, ref B.length k T.length) e w' := by
  have g1 : (1024 : Int) ≤ (B.length : Int) := by omega
  have HSE : Hid ((Tryd.prog.info? 23).map (·.size) = some ([Value.string (bs B), Value.bool q]).length) := sizeE
  have HQ : Hid (∀ (w' : World), Below w.heap.size w w' → Typ w (⟨B, q, [], []⟩, ref B.length k T.length) (.returned (.tuple #[.agg #[.string (bs B), .bool q], .slice none 0 0, .string { data := #[] }, .int .i64 2])) w') := fun w' hb => by
    rw [hr]
    exact ⟨none, 0, rfl, OwnR.nil _ _ _ _, hb⟩
  have hsB := bs_size B
  have hsT := bs_size T
  clear hr
  unfold EV edCells K.KV H.MV at *
  generalize bs T = T1 at *
  generalize bs B = X at *
  generalize bcells k = l at *
  generalize H.ucells M = m at *
  go_enter Tryd.func10, Tryd.ntmps10
  go_wp2_with (refine wpList_box [.string X, .bool q] 23 rfl _ rfl rfl ?_)
  intro w1 m1
  go_wp2_with (refine wpList_box l 26 rfl _ rfl rfl ?_)
  intro w2 m2
  go_wp2_with (refine wpList_box m 30 rfl _ rfl rfl ?_)
  intro w3 m3
  go_wp2_with (refine wpList_alloc [.string ⟨#[]⟩, .bool false] 23 zeroE rfl rfl ?_)
  intro w4 m4
  have b1 := Hid.mk' (m4.keep (m3.keep (m2.keep m1.box)))
  have b2 := Hid.mk' (m4.keep (m3.keep m2.box))
  have b3 := Hid.mk' (m4.keep m3.box)
  have b4 := Hid.mk' m4.box
  have z1 := m1.lt
  have z2 := m2.lt
  have z3 := m3.lt
  have z4 := m4.lt
  have HB4 := Hid.mk' (m4.below w.heap.size w (by omega) (m3.below _ _ (by omega) (m2.below _ _ (by omega) (m1.below _ _ (Nat.le_refl _) (Below.refl _ w)))))
  clear m1 m2 m3 m4
  have e0 := b1.out.cell (j := 0) rfl
  go_wp2_with (first | (with_reducible refine wpList_load_box 23 23 [.string X, .bool q] w.heap.size _ Tryd.underlying23 rfl HSE.out b1.out rfl _ rfl rfl ?_) | (refine wpList_store_box 23 23 [.string ⟨#[]⟩, .bool false] [.string X, .bool q] w3.heap.size sizeE (edCells_one _ _) b4.out rfl rfl _ _ rfl rfl rfl ?_))
  intro w6 s6
  have HB6 := Hid.mk' (s6.below w.heap.size w (by omega) HB4.out)
  have b6 := Hid.mk' s6.box
  clear s6
  go_wp2
  refine ret_ed rfl 23 [.string X, .bool q] w3.heap.size rfl (.slice none 0 0) (.string { data := #[] }) (.int .i64 2) rfl rfl rfl rfl b6.out rfl ?_
  exact HQ.out _ HB6.out

set_option maxHeartbeats 8000000 in
set_option maxRecDepth 100000 in
theorem Typing_keys (k : List UInt8) (hk : k.length = 38) (M : List Nat) (B T : List UInt8) (q : Bool) (w : World) (hB : ¬ 1024 ≤ B.length) (hc : K.chk k = 4) (hr : ref B.length k T.length = 4) :
    Calls Tryd.prog 10 #[EV (bs B) q, K.KV k, H.MV M, .string (bs T)] w fun e w' => Typ w (⟨B, q, [], []⟩, ref B.length k T.length) e w' := by
  have g1 : ¬ (1024 : Int) ≤ (B.length : Int) := by omega
  have HKR := Hid.mk' (fun W => K.KeysRight_any k hk W)
  rw [hc] at HKR
  clear hc
  have HS := Hid.mk' (K.sizeKV k hk)
  have HSE : Hid ((Tryd.prog.info? 23).map (·.size) = some ([Value.string (bs B), Value.bool q]).length) := sizeE
  have HQ : Hid (∀ (w' : World), Below w.heap.size w w' → Typ w (⟨B, q, [], []⟩, ref B.length k T.length) (.returned (.tuple #[.agg #[.string (bs B), .bool q], .slice none 0 0, .string { data := #[] }, .int .i64 4])) w') := fun w' hb => by
    rw [hr]
    exact ⟨none, 0, rfl, OwnR.nil _ _ _ _, hb⟩
  have hsB := bs_size B
  have hsT := bs_size T
  clear hr
  unfold EV edCells K.KV H.MV at *
  generalize bs T = T1 at *
  generalize bs B = X at *
  generalize bcells k = l at *
  generalize H.ucells M = m at *
  go_enter Tryd.func10, Tryd.ntmps10
  go_wp2_with (refine wpList_box [.string X, .bool q] 23 rfl _ rfl rfl ?_)
  intro w1 m1
  go_wp2_with (refine wpList_box l 26 rfl _ rfl rfl ?_)
  intro w2 m2
  go_wp2_with (refine wpList_box m 30 rfl _ rfl rfl ?_)
  intro w3 m3
  go_wp2_with (refine wpList_alloc [.string ⟨#[]⟩, .bool false] 23 zeroE rfl rfl ?_)
  intro w4 m4
  have b1 := Hid.mk' (m4.keep (m3.keep (m2.keep m1.box)))
  have b2 := Hid.mk' (m4.keep (m3.keep m2.box))
  have b3 := Hid.mk' (m4.keep m3.box)
  have b4 := Hid.mk' m4.box
  have z1 := m1.lt
  have z2 := m2.lt
  have z3 := m3.lt
  have z4 := m4.lt
  have HB4 := Hid.mk' (m4.below w.heap.size w (by omega) (m3.below _ _ (by omega) (m2.below _ _ (by omega) (m1.below _ _ (Nat.le_refl _) (Below.refl _ w)))))
  clear m1 m2 m3 m4
  have e0 := b1.out.cell (j := 0) rfl
  go_wp2_with (with_reducible refine wpList_load_box 26 26 l w1.heap.size _ Tryd.underlying26 rfl HS.out b2.out rfl _ rfl rfl ?_)
  refine (HKR.out _).mono ?_
  rintro e w5 ⟨rfl, h5⟩
  have b1 := Hid.mk' (b1.out.later h5)
  have b2 := Hid.mk' (b2.out.later h5)
  have b3 := Hid.mk' (b3.out.later h5)
  have b4 := Hid.mk' (b4.out.later h5)
  have HB5 := Hid.mk' (HB4.out.trans (Below.mono h5 (by omega)))
  have z5 := h5.size
  clear h5 HB4 e0
  go_wp2_with (first | (with_reducible refine wpList_load_box 23 23 [.string X, .bool q] w.heap.size _ Tryd.underlying23 rfl HSE.out b1.out rfl _ rfl rfl ?_) | (refine wpList_store_box 23 23 [.string ⟨#[]⟩, .bool false] [.string X, .bool q] w3.heap.size sizeE (edCells_one _ _) b4.out rfl rfl _ _ rfl rfl rfl ?_))
  intro w6 s6
  have HB6 := Hid.mk' (s6.below w.heap.size w (by omega) HB5.out)
  have b6 := Hid.mk' s6.box
  clear s6
  go_wp2
  refine ret_ed rfl 23 [.string X, .bool q] w3.heap.size rfl (.slice none 0 0) (.string { data := #[] }) (.int .i64 4) rfl rfl rfl rfl b6.out rfl ?_
  exact HQ.out _ HB6.out

set_option maxHeartbeats 8000000 in
set_option maxRecDepth 100000 in
theorem Typing_much (k : List UInt8) (hk : k.length = 38) (M : List Nat) (B T : List UInt8) (q : Bool) (w : World) (hB : ¬ 1024 ≤ B.length) (hc : K.chk k = 0) (hT : 4096 < T.length) (hr : ref B.length k T.length = 2) :
    Calls Tryd.prog 10 #[EV (bs B) q, K.KV k, H.MV M, .string (bs T)] w fun e w' => Typ w (⟨B, q, [], []⟩, ref B.length k T.length) e w' := by
  have g1 : ¬ (1024 : Int) ≤ (B.length : Int) := by omega
  have g2 : (4096 : Int) < (T.length : Int) := by omega
  have HKR := Hid.mk' (fun W => K.KeysRight_any k hk W)
  rw [hc] at HKR
  clear hc
  have HS := Hid.mk' (K.sizeKV k hk)
  have HSE : Hid ((Tryd.prog.info? 23).map (·.size) = some ([Value.string (bs B), Value.bool q]).length) := sizeE
  have HQ : Hid (∀ (w' : World), Below w.heap.size w w' → Typ w (⟨B, q, [], []⟩, ref B.length k T.length) (.returned (.tuple #[.agg #[.string (bs B), .bool q], .slice none 0 0, .string { data := #[] }, .int .i64 2])) w') := fun w' hb => by
    rw [hr]
    exact ⟨none, 0, rfl, OwnR.nil _ _ _ _, hb⟩
  have hsB := bs_size B
  have hsT := bs_size T
  clear hr
  unfold EV edCells K.KV H.MV at *
  generalize bs T = T1 at *
  generalize bs B = X at *
  generalize bcells k = l at *
  generalize H.ucells M = m at *
  go_enter Tryd.func10, Tryd.ntmps10
  go_wp2_with (refine wpList_box [.string X, .bool q] 23 rfl _ rfl rfl ?_)
  intro w1 m1
  go_wp2_with (refine wpList_box l 26 rfl _ rfl rfl ?_)
  intro w2 m2
  go_wp2_with (refine wpList_box m 30 rfl _ rfl rfl ?_)
  intro w3 m3
  go_wp2_with (refine wpList_alloc [.string ⟨#[]⟩, .bool false] 23 zeroE rfl rfl ?_)
  intro w4 m4
  have b1 := Hid.mk' (m4.keep (m3.keep (m2.keep m1.box)))
  have b2 := Hid.mk' (m4.keep (m3.keep m2.box))
  have b3 := Hid.mk' (m4.keep m3.box)
  have b4 := Hid.mk' m4.box
  have z1 := m1.lt
  have z2 := m2.lt
  have z3 := m3.lt
  have z4 := m4.lt
  have HB4 := Hid.mk' (m4.below w.heap.size w (by omega) (m3.below _ _ (by omega) (m2.below _ _ (by omega) (m1.below _ _ (Nat.le_refl _) (Below.refl _ w)))))
  clear m1 m2 m3 m4
  have e0 := b1.out.cell (j := 0) rfl
  go_wp2_with (with_reducible refine wpList_load_box 26 26 l w1.heap.size _ Tryd.underlying26 rfl HS.out b2.out rfl _ rfl rfl ?_)
  refine (HKR.out _).mono ?_
  rintro e w5 ⟨rfl, h5⟩
  have b1 := Hid.mk' (b1.out.later h5)
  have b2 := Hid.mk' (b2.out.later h5)
  have b3 := Hid.mk' (b3.out.later h5)
  have b4 := Hid.mk' (b4.out.later h5)
  have HB5 := Hid.mk' (HB4.out.trans (Below.mono h5 (by omega)))
  have z5 := h5.size
  clear h5 HB4 e0
  go_wp2_with (first | (with_reducible refine wpList_load_box 23 23 [.string X, .bool q] w.heap.size _ Tryd.underlying23 rfl HSE.out b1.out rfl _ rfl rfl ?_) | (refine wpList_store_box 23 23 [.string ⟨#[]⟩, .bool false] [.string X, .bool q] w3.heap.size sizeE (edCells_one _ _) b4.out rfl rfl _ _ rfl rfl rfl ?_))
  intro w6 s6
  have HB6 := Hid.mk' (s6.below w.heap.size w (by omega) HB5.out)
  have b6 := Hid.mk' s6.box
  clear s6
  go_wp2
  refine ret_ed rfl 23 [.string X, .bool q] w3.heap.size rfl (.slice none 0 0) (.string { data := #[] }) (.int .i64 2) rfl rfl rfl rfl b6.out rfl ?_
  exact HQ.out _ HB6.out
end Go.Proofs.YtomgnnbcaficaaaDoor.L
