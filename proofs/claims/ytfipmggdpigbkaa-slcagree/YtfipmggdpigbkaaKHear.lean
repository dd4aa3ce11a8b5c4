/-
  Contract of slc.hear; condition: 38 bytes.
-/
import Derived.Test.YtfipmggdpigbkaaKSettle
namespace Go.Proofs.Ytfipmggdpigbkaa.K
open Go.RowKit Go.Proofs.Ytfipmggdpigbkaa Go.Proofs.Ytfipmggdpigbkaa.W Go.Proofs.Ytfipmggdpigbkaa.Q

attribute [local go_sem ↓] exec_loadT exec_storeT exec_loadK exec_storeK

/-- two blocks stay of their sizes; what lies below the first stays as it is -/
def SG (w0 : World) (b : Nat) (tb : TypeId) (nb : Nat) (c : Nat) (tc : TypeId) (nc : Nat) (w' : World) : Prop := Below b w0 w' ∧ HasBox w' b tb nb ∧ HasBox w' c tc nc
theorem SG.put {w0 w' : World} {b c d nb nc : Nat} {tb tc : TypeId} (h : SG w0 b tb nb c tc nc w') (hlt : b < c) (cs : List Value) (hd : (d = b ∧ cs.length = nb) ∨ (d = c ∧ cs.length = nc)) : SG w0 b tb nb c tc nc (putAt w' (.pointer (some ⟨d, 0, none⟩)) (.agg cs.toArray)) := by
  rcases hd with ⟨rfl, hn⟩ | ⟨rfl, hn⟩
  · have s := h.2.1.put cs hn
    exact ⟨s.below _ _ (Nat.le_refl _) h.1, ⟨cs, s.box, hn⟩, h.2.2.other (s.other _ (by omega))⟩
  · have s := h.2.2.put cs hn
    exact ⟨s.below _ _ (by omega) h.1, h.2.1.other (s.other _ (by omega)), ⟨cs, s.box, hn⟩⟩
theorem SG.later {w0 w' w2 : World} {b c nb nc : Nat} {tb tc : TypeId} (h : SG w0 b tb nb c tc nc w') (hb : Below w'.heap.size w' w2) : SG w0 b tb nb c tc nc w2 :=
  ⟨h.1.trans (hb.mono (Nat.le_of_lt h.2.1.lt)), h.2.1.later hb, h.2.2.later hb⟩

/-- results: Keys and a three of bytes that lie in blocks, and a third -/
theorem ret_keys {fn : Func} {R : Ending → World → Prop} {p q r : Tmp} (h : fn.results = #[.cell p 24, .cell q 41, .tmp r]) {a : Act} {w : World} (l m : List Value) (b c : Nat) (v : Value)
    (hp : a.tmps[p]? = some (.pointer (some ⟨b, 0, none⟩))) (hq : a.tmps[q]? = some (.pointer (some ⟨c, 0, none⟩))) (hr : a.tmps[r]? = some v) (hB : Box w b 24 l) (hC : Box w c 41 m) (h0 : a.defers = []) (hR : R (.returned (.tuple #[.agg l.toArray, .agg m.toArray, v])) w) (hl : l.length = 38) (hm : m.length = 3) : bodyPost Try.prog fn R .ret a w := by
  refine bodyPost_ret (v := .tuple #[.agg l.toArray, .agg m.toArray, v]) ?_ h0 hR
  simp [results, h, hp, hq, hr, asAddr, loadVar_box w 24 24 l b _ Try.underlying24 rfl (by rw [hl]; exact sizeK) hB, loadVar_box w 41 41 m c _ Try.underlying41 rfl (by rw [hm]; exact sizeT) hC]

def HR (k : List UInt8) (f g c : UInt8) (e : Ending) : Prop := ∃ s0 s1 s2 due, e = .returned (.tuple #[KV (take1 k f g c).1, T3 s0 s1 s2, .bool due]) ∧ (if due then [s0, s1, s2] else []) = (take1 k f g c).2

theorem take1_no (k : List UInt8) {f : UInt8} (g c : UInt8) (hf : isF f = false) : take1 k f g c = (k, if g < 128 then [f, 0, 0] else []) := by
  unfold take1
  rw [hf]
  rfl
set_option maxHeartbeats 8000000 in
theorem hear_out (k : List UInt8) (hk : k.length = 38) (f g c : UInt8) (hf : isF f = false) (w : World) :
    Calls Try.prog 18 #[KV k, T3 f g c] w fun e w' => HR k f g c e ∧ Below w.heap.size w w' := by
  have HZ := Hid.mk' zeroT
  have HZK := Hid.mk' zeroK
  have HA : Hid (∀ w, Calls Try.prog 22 #[.int .u8 (f.toNat : Int)] w fun e w' => e = .returned (.agg (tc f 0 0).toArray) ∧ Below w.heap.size w w') := none_any f
  have HR0 : Hid (∀ b : Bool, b = decide (¬ 128 ≤ (g.toNat : Int)) → HR k f g c (.returned (.tuple #[KV k, T3 f 0 0, .bool b]))) := fun b hb => by
    rw [HR, take1_no k g c hf]
    refine ⟨f, 0, 0, b, rfl, ?_⟩
    have e : (g < 128) ↔ ¬ 128 ≤ (g.toNat : Int) := by
      rw [UInt8.lt_iff_toNat_lt]
      have : (128 : UInt8).toNat = 128 := rfl
      omega
    by_cases h : g < 128
    · rw [hb, decide_eq_true (e.1 h), if_pos h, if_pos rfl]
    · rw [hb, decide_eq_false (fun h2 => h (e.2 h2)), if_neg h, if_neg (by decide)]
  have hfn : ¬ (1 ≤ (f.toNat : Int) ∧ (f.toNat : Int) ≤ 18) := by
    have := of_decide_eq_false hf
    omega
  have HG : Hid ((tc f g c)[0]? = some (.int .u8 (f.toNat : Int)) ∧ (tc f g c)[1]? = some (.int .u8 (g.toNat : Int))) := ⟨rfl, rfl⟩
  have HLK : Hid ((bcells k).length = 38) := by rw [bcells_length, hk]; rfl
  have HKH : Hid (Holds (.agg (bcells k).toArray) 38) := KV.holds k hk
  unfold KV at *
  generalize bcells k = l at *
  have hg := u8_bd g
  have hff := u8_bd f
  generalize (g.toNat : Int) = gi at *
  go_enter Try.func18, Try.ntmps18
  go_wp2_with (refine wpList_box l 24 rfl _ rfl rfl ?_)
  intro w1 m1
  go_wp2_with (refine wpList_box (tc f g c) 41 rfl _ rfl rfl ?_)
  intro w2 m2
  go_wp2_with (refine wpList_alloc (bcells noK) 24 HZK.out rfl rfl ?_)
  intro w3 m3
  go_wp2_with (refine wpList_alloc (tc 0 0 0) 41 HZ.out rfl rfl ?_)
  intro w4 m4
  have z1 := m1.lt
  have z2 := m2.lt
  have z3 := m3.lt
  have z4 := m4.lt
  have B0 := Hid.mk' (m4.keep (m3.keep (m2.keep m1.box)))
  have B1 := Hid.mk' (m4.keep (m3.keep m2.box))
  have B2 := Hid.mk' (m4.keep m3.box)
  have B3 := Hid.mk' m4.box
  have HL := Hid.mk' (m4.below w.heap.size w (by omega) (m3.below _ _ (by omega) (m2.below _ _ (by omega) (m1.below _ _ (Nat.le_refl _) (Below.refl _ w)))))
  have hc0 := B1.out.cell HG.out.1
  have hc1 := B1.out.cell HG.out.2
  have q2 : w.heap.size ≤ w2.heap.size := by omega
  have q3 : w.heap.size ≤ w3.heap.size := by omega
  have q4 : w2.heap.size ≠ w3.heap.size := by omega
  have hlt : w2.heap.size < w3.heap.size := by omega
  clear m1 m2 m3 m4
  by_cases hf1 : (f.toNat : Int) < 1
  · go_wp2_with fail
    go_quiet (fail)
    go_wp2_with fail
    have C0 : Hid (Box (w4.drewN nq) w.heap.size 24 l) := B0.out
    have C2 : Hid (Box (w4.drewN nq) w2.heap.size 24 (bcells noK)) := B2.out
    have C3 : Hid (Box (w4.drewN nq) w3.heap.size 41 (tc 0 0 0)) := B3.out
    have CL := Hid.mk' (below_drewN HL.out nq)
    generalize w4.drewN nq = w5 at *
    clear B0 B1 B2 B3 HL hc0 hc1
    have x0 := C0.out.drew
    have hS : SG w5.drew w2.heap.size 24 38 w3.heap.size 41 3 w5.drew := ⟨Below.refl _ _, ⟨_, C2.out.drew, rfl⟩, ⟨_, C3.out.drew, rfl⟩⟩
    have hl0 : ∀ w', SG w5.drew w2.heap.size 24 38 w3.heap.size 41 3 w' → Lies w' (.pointer (some ⟨w.heap.size, 0, none⟩)) 38 := fun w' h => (x0.below h.1 (by omega)).lies0 HLK.out
    have hr0 : ∀ w', SG w5.drew w2.heap.size 24 38 w3.heap.size 41 3 w' → Q.rowAt w' (.pointer (some ⟨w.heap.size, 0, none⟩)) 38 = l := fun w' h => (x0.below h.1 (by omega)).row0 HLK.out
    have hl2 : ∀ w', SG w5.drew w2.heap.size 24 38 w3.heap.size 41 3 w' → Lies w' (.pointer (some ⟨w2.heap.size, 0, none⟩)) 38 := fun w' h => h.2.1.lies
    have hl3 : ∀ w', SG w5.drew w2.heap.size 24 38 w3.heap.size 41 3 w' → Lies w' (.pointer (some ⟨w3.heap.size, 0, none⟩)) 3 := fun w' h => h.2.2.lies
    have hh6 := HKH.out
    have hh7 : Holds (.agg (tc f 0 0).toArray) 3 := T3.holds _ _ _
    have hn6 : Hid (l.length = 38) := HLK
    have hn7 : Hid ((tc f 0 0).length = 3) := rfl
    have HLD := Hid.mk' CL.out.drew
    clear x0 CL C0 C2 C3 HZ HZK
    go_region_held3 (fun w' => SG w5.drew w2.heap.size 24 38 w3.heap.size 41 3 w') (first | with_reducible assumption | (with_reducible refine SG.put (by with_reducible assumption) hlt _ (by first | exact Or.inl ⟨rfl, hn6.out⟩ | exact Or.inr ⟨rfl, hn7.out⟩))) ((go_at_call 22; refine (HA.out _).mono ?_; rintro e wy ⟨rfl, hb⟩; have hsy : SG w5.drew w2.heap.size 24 38 w3.heap.size 41 3 wy := SG.later (by with_reducible assumption) hb))
    have S6 := hsy.2.1.put l hn6.out
    have S7 := Hid.mk' ((hsy.2.2.other (S6.other _ q4.symm)).put (tc f 0 0) rfl)
    have r6 := Hid.mk' (S7.out.keep S6.box q4)
    have HL7 := Hid.mk' (S7.out.below _ _ q3 (S6.below _ _ q2 (HLD.out.trans (hsy.1.mono q2))))
    have HF := Hid.mk' (HR0.out (!decide (128 ≤ gi)) (by rw [← decide_not]; congr 1; rw [eq_iff_iff]; omega))
    have HLL := HLK.out
    clear S6 hS hsy
    go_wp2
    exact ret_keys Try.results18 l (tc f 0 0) w2.heap.size w3.heap.size _ rfl rfl rfl r6.out S7.out.box rfl ⟨HF.out, HL7.out⟩ HLL rfl
  · have hf18 : 18 < (f.toNat : Int) := by omega
    go_wp2_with fail
    go_quiet (fail)
    go_wp2_with fail
    have C0 : Hid (Box (w4.drewN nq) w.heap.size 24 l) := B0.out
    have C2 : Hid (Box (w4.drewN nq) w2.heap.size 24 (bcells noK)) := B2.out
    have C3 : Hid (Box (w4.drewN nq) w3.heap.size 41 (tc 0 0 0)) := B3.out
    have CL := Hid.mk' (below_drewN HL.out nq)
    generalize w4.drewN nq = w5 at *
    clear B0 B1 B2 B3 HL hc0 hc1
    have x0 := C0.out.drew
    have hS : SG w5.drew w2.heap.size 24 38 w3.heap.size 41 3 w5.drew := ⟨Below.refl _ _, ⟨_, C2.out.drew, rfl⟩, ⟨_, C3.out.drew, rfl⟩⟩
    have hl0 : ∀ w', SG w5.drew w2.heap.size 24 38 w3.heap.size 41 3 w' → Lies w' (.pointer (some ⟨w.heap.size, 0, none⟩)) 38 := fun w' h => (x0.below h.1 (by omega)).lies0 HLK.out
    have hr0 : ∀ w', SG w5.drew w2.heap.size 24 38 w3.heap.size 41 3 w' → Q.rowAt w' (.pointer (some ⟨w.heap.size, 0, none⟩)) 38 = l := fun w' h => (x0.below h.1 (by omega)).row0 HLK.out
    have hl2 : ∀ w', SG w5.drew w2.heap.size 24 38 w3.heap.size 41 3 w' → Lies w' (.pointer (some ⟨w2.heap.size, 0, none⟩)) 38 := fun w' h => h.2.1.lies
    have hl3 : ∀ w', SG w5.drew w2.heap.size 24 38 w3.heap.size 41 3 w' → Lies w' (.pointer (some ⟨w3.heap.size, 0, none⟩)) 3 := fun w' h => h.2.2.lies
    have hh6 := HKH.out
    have hh7 : Holds (.agg (tc f 0 0).toArray) 3 := T3.holds _ _ _
    have hn6 : Hid (l.length = 38) := HLK
    have hn7 : Hid ((tc f 0 0).length = 3) := rfl
    have HLD := Hid.mk' CL.out.drew
    clear x0 CL C0 C2 C3 HZ HZK
    go_region_held3 (fun w' => SG w5.drew w2.heap.size 24 38 w3.heap.size 41 3 w') (first | with_reducible assumption | (with_reducible refine SG.put (by with_reducible assumption) hlt _ (by first | exact Or.inl ⟨rfl, hn6.out⟩ | exact Or.inr ⟨rfl, hn7.out⟩))) ((go_at_call 22; refine (HA.out _).mono ?_; rintro e wy ⟨rfl, hb⟩; have hsy : SG w5.drew w2.heap.size 24 38 w3.heap.size 41 3 wy := SG.later (by with_reducible assumption) hb))
    have S6 := hsy.2.1.put l hn6.out
    have S7 := Hid.mk' ((hsy.2.2.other (S6.other _ q4.symm)).put (tc f 0 0) rfl)
    have r6 := Hid.mk' (S7.out.keep S6.box q4)
    have HL7 := Hid.mk' (S7.out.below _ _ q3 (S6.below _ _ q2 (HLD.out.trans (hsy.1.mono q2))))
    have HF := Hid.mk' (HR0.out (!decide (128 ≤ gi)) (by rw [← decide_not]; congr 1; rw [eq_iff_iff]; omega))
    have HLL := HLK.out
    clear S6 hS hsy
    go_wp2
    exact ret_keys Try.results18 l (tc f 0 0) w2.heap.size w3.heap.size _ rfl rfl rfl r6.out S7.out.box rfl ⟨HF.out, HL7.out⟩ HLL rfl
end Go.Proofs.Ytfipmggdpigbkaa.K
