/-
  Contracts of slices.Equal at []int and farref.SameAct, whatever they read; condition: at most 10^9 ints an act.
  Contract of farref.asciiRunes: a text's bytes as ints; condition: at most 2^40 bytes.
-/
import Derived.Test.YtneiiinheimglaaGreatDoorJ13
import Derived.Test.YtneiiinheimglaaGreatDoorJ14
import Derived.Test.YtneiiinheimglaaGreatDoorJ16
import Derived.Test.YtneiiinheimglaaGreatDoorJ1
namespace Go.Proofs.YtneiiinheimglaaGreatDoor.B
open Go.RowKit Go.Lib Go.Proofs.YtneiiinheimglaaGreatDoor Go.Proofs.YtneiiinheimglaaGreatDoor.W Go.Proofs.YtneiiinheimglaaGreatDoor.Q Go.Proofs.YtneiiinheimglaaGreatDoor.C Go.Proofs.YtneiiinheimglaaGreatDoor.Z

def sameA (x y : Ac) : Bool := decide (x.kind = y.kind ∧ x.code = y.code ∧ x.mark = y.mark ∧ x.inter = y.inter ∧ x.text = y.text ∧ x.args = y.args)
theorem sameA_iff (x y : Ac) : sameA x y = true ↔ x = y := by
  unfold sameA
  rw [decide_eq_true_iff]
  obtain ⟨kx, cx, mx, ix, ax, tx⟩ := x
  obtain ⟨ky, cy, my, iy, ay, ty⟩ := y
  simp only [Ac.mk.injEq]
  exact ⟨fun ⟨a, b, c, d, e, f⟩ => ⟨a, b, c, d, f, e⟩, fun ⟨a, b, c, d, f, e⟩ => ⟨a, b, c, d, e, f⟩⟩
theorem rd_u {w : World} {v : Value} {l : List Int} (h : RdI w v l) : U.RdI w v l := h
theorem str_ne {a b : List UInt8} (h : ¬ a = b) : ((bs a).toList == (bs b).toList) = false := by
  rw [beq_eq_false_iff_ne]
  intro e
  rw [ByteArray.toList_eq, ByteArray.toList_eq] at e
  exact h e
theorem Equal_gen (w : World) (v1 v2 : Value) (l m : List Int) (h1 : RdI w v1 l) (h2 : RdI w v2 m) (hn : l.length ≤ 1000000000) (hm : m.length ≤ 1000000000) :
    Calls Tryz.prog 6 #[v1, v2] w fun e w' => e = .returned (.bool (l == m)) ∧ Below w.heap.size w w' :=
  (U.Equal_any w v1 v2 l m (rd_u h1) (rd_u h2) hn hm).mono fun e w' ⟨he, q, hq⟩ => ⟨he, by rw [hq]; exact below_drewN (Below.refl _ _) q⟩

set_option maxHeartbeats 4000000 in
set_option maxRecDepth 100000 in
theorem SameAct_any (x y : Ac) (va vb : Value) (w : World) (ha : RdI w va x.args) (hb : RdI w vb y.args) (hn : x.args.length ≤ 1000000000) (hm : y.args.length ≤ 1000000000) :
    Calls Tryz.prog 14 #[.agg (acells x va).toArray, .agg (acells y vb).toArray] w fun e w' => e = .returned (.bool (sameA x y)) ∧ Below w.heap.size w w' := by
  have HW : Hid (Below w.heap.size w ((w.alloc (.cells (acells x va).toArray 24)).alloc (.cells (acells y vb).toArray 24))) := ((Below.refl _ _).alloc (Nat.le_refl _) _).alloc (by simp) _
  have HE := Hid.mk' (Equal_gen _ va vb x.args y.args (ha.below HW.out) (hb.below HW.out) hn hm)
  obtain ⟨a1, c1, e1, _⟩ := ha
  obtain ⟨a2, c2, e2, _⟩ := hb
  subst e1 e2
  obtain ⟨kx, cx, mx, ix, ax, tx⟩ := x
  obtain ⟨ky, cy, my, iy, ay, ty⟩ := y
  unfold acells at *
  dsimp only at *
  clear hn hm
  by_cases h0 : kx = ky
  · have f0 : (kx == ky) = true := beq_iff_eq.2 h0
    by_cases h1 : cx = cy
    · have f1 : (cx == cy) = true := beq_iff_eq.2 h1
      by_cases h2 : mx = my
      · have f2 : (mx == my) = true := beq_iff_eq.2 h2
        by_cases h3 : ix = iy
        · have f3 : ((bs ix).toList == (bs iy).toList) = true := by rw [h3]; exact same_self _
          by_cases h4 : tx = ty
          · have f4 : ((bs tx).toList == (bs ty).toList) = true := by rw [h4]; exact same_self _
            have e0 : sameA (⟨kx, cx, mx, ix, ax, tx⟩ : Ac) ⟨ky, cy, my, iy, ay, ty⟩ = (ax == ay) := by
              by_cases h : ax = ay
              · rw [beq_iff_eq.2 h]; exact decide_eq_true ⟨h0, h1, h2, h3, h4, h⟩
              · rw [beq_false_of_ne h]; exact decide_eq_false (fun e => h e.2.2.2.2.2)
            rw [e0]
            clear e0 h0 h1 h2 h3 h4
            generalize (ax == ay) = R at *
            generalize bs ix = Six at *
            generalize bs iy = Siy at *
            generalize bs tx = Stx at *
            generalize bs ty = Sty at *
            go_enter Tryz.func14, Tryz.ntmps14
            go_wp2_with fail
            refine HE.out.mono ?_
            rintro e w2 ⟨rfl, hb2⟩
            have HF := Hid.mk' (HW.out.trans (Below.mono hb2 HW.out.size))
            clear HE HW hb2
            go_wp2
            go_ret
            exact ⟨rfl, HF.out⟩
          · have f4 : ((bs tx).toList == (bs ty).toList) = false := str_ne h4
            have e0 : sameA (⟨kx, cx, mx, ix, ax, tx⟩ : Ac) ⟨ky, cy, my, iy, ay, ty⟩ = false := decide_eq_false (fun e => h4 e.2.2.2.2.1)
            rw [e0]
            clear HE e0 h4
            generalize bs ix = Six at *
            generalize bs iy = Siy at *
            generalize bs tx = Stx at *
            generalize bs ty = Sty at *
            clear h0
            clear h1
            clear h2
            clear h3
            go_enter Tryz.func14, Tryz.ntmps14
            go_wp2
            go_ret
            exact ⟨rfl, HW.out⟩
        · have f3 : ((bs ix).toList == (bs iy).toList) = false := str_ne h3
          have e0 : sameA (⟨kx, cx, mx, ix, ax, tx⟩ : Ac) ⟨ky, cy, my, iy, ay, ty⟩ = false := decide_eq_false (fun e => h3 e.2.2.2.1)
          rw [e0]
          clear HE e0 h3
          generalize bs ix = Six at *
          generalize bs iy = Siy at *
          generalize bs tx = Stx at *
          generalize bs ty = Sty at *
          clear h0
          clear h1
          clear h2
          go_enter Tryz.func14, Tryz.ntmps14
          go_wp2
          go_ret
          exact ⟨rfl, HW.out⟩
      · have f2 : (mx == my) = false := beq_false_of_ne h2
        have e0 : sameA (⟨kx, cx, mx, ix, ax, tx⟩ : Ac) ⟨ky, cy, my, iy, ay, ty⟩ = false := decide_eq_false (fun e => h2 e.2.2.1)
        rw [e0]
        clear HE e0 h2
        generalize bs ix = Six at *
        generalize bs iy = Siy at *
        generalize bs tx = Stx at *
        generalize bs ty = Sty at *
        clear h0
        clear h1
        go_enter Tryz.func14, Tryz.ntmps14
        go_wp2
        go_ret
        exact ⟨rfl, HW.out⟩
    · have f1 : (cx == cy) = false := beq_false_of_ne h1
      have e0 : sameA (⟨kx, cx, mx, ix, ax, tx⟩ : Ac) ⟨ky, cy, my, iy, ay, ty⟩ = false := decide_eq_false (fun e => h1 e.2.1)
      rw [e0]
      clear HE e0 h1
      generalize bs ix = Six at *
      generalize bs iy = Siy at *
      generalize bs tx = Stx at *
      generalize bs ty = Sty at *
      clear h0
      go_enter Tryz.func14, Tryz.ntmps14
      go_wp2
      go_ret
      exact ⟨rfl, HW.out⟩
  · have f0 : (kx == ky) = false := beq_false_of_ne h0
    have e0 : sameA (⟨kx, cx, mx, ix, ax, tx⟩ : Ac) ⟨ky, cy, my, iy, ay, ty⟩ = false := decide_eq_false (fun e => h0 e.1)
    rw [e0]
    clear HE e0 h0
    generalize bs ix = Six at *
    generalize bs iy = Siy at *
    generalize bs tx = Stx at *
    generalize bs ty = Sty at *
    go_enter Tryz.func14, Tryz.ntmps14
    go_wp2
    go_ret
    exact ⟨rfl, HW.out⟩
end Go.Proofs.YtneiiinheimglaaGreatDoor.B
namespace Go.Proofs.YtneiiinheimglaaGreatDoor.B
open Go.RowKit Go.Lib Go.Proofs.YtneiiinheimglaaGreatDoor Go.Proofs.YtneiiinheimglaaGreatDoor.W Go.Proofs.YtneiiinheimglaaGreatDoor.Q Go.Proofs.YtneiiinheimglaaGreatDoor.C Go.Proofs.YtneiiinheimglaaGreatDoor.Z

theorem asInts_step (T : List UInt8) (i : Nat) (h : i < T.length) : asInts (T.take (i + 1)) = asInts (T.take i) ++ [(T[i].toNat : Int)] := by
  unfold asInts
  rw [List.take_succ_eq_append_getElem h, List.map_append]
  rfl
theorem asInts_len (T : List UInt8) : (asInts T).length = T.length := by simp [asInts]
/-- what lives in the loop -/
def SR (w : World) (T : List UInt8) (s3 s9 : Value) (W : World) : Prop :=
  ∃ k : Nat, k ≤ T.length ∧ s9 = .int .i64 (k : Int) ∧ Hid (OwnI W (w.heap.size + 1) s3 (asInts (T.take k))) ∧ Hid (Below w.heap.size w W) ∧ Hid (∀ j (h : j < T.length), W.cell? ⟨w.heap.size, j, none⟩ = some (.int .u8 (T[j].toNat : Int))) ∧ Hid (w.heap.size + 1 ≤ W.heap.size)
set_option maxHeartbeats 8000000 in
set_option maxRecDepth 100000 in
theorem asciiRunes_any (T : List UInt8) (w : World) (hl : T.length ≤ 1099511627776) :
    Calls Tryz.prog 10 #[.string (bs T)] w fun e w' => ∃ v, e = .returned v ∧ OwnI w' w.heap.size v (asInts T) ∧ Below w.heap.size w w' := by
  have z1 := C.bs_size T
  have c1 := Lib.run_convert_string_bytes (P := Tryz.prog) w 9 50 5 (bs T) Tryz.underlying9 Tryz.underlying50 Tryz.underlying5
  rw [z1] at c1
  have g1b := grownCap_ge w T.length 0 5
  have HS : Hid (SR w T (.slice none 0 0) (.int .i64 0) (bytesWorld w 5 (bs T))) := ⟨0, Nat.zero_le _, rfl, OwnI.nil _ _, below_bytes w 5 (bs T), fun j h => bytes_cell w 5 T j h, by rw [Hid, bytesWorld_size]; exact Nat.le_refl _⟩
  generalize bytesWorld w 5 (bs T) = w2 at *
  generalize grownCap w T.length 0 5 = C1 at *
  generalize bs T = S at *
  go_enter Tryz.func10, Tryz.ntmps10
  go_wp2_with fail
  clear c1 g1b
  go_loopw [3, 9] (fun s3 s9 wr => SR w T s3 s9 wr) (fun _ i _ => T.length - (RowKit.intOf i).toNat)
  case atStart => exact HS.out
  case round =>
    obtain ⟨k, hk, rfl, HO, HB, HC, HZ⟩ := hrel
    clear HS z1
    by_cases hlt : k < T.length
    · have c1 := HC.out k hlt
      have hb := T[k].toNat_lt
      have hb1 : (T[k].toNat : Int) < 256 := by omega
      have hb0 : (0 : Int) ≤ (T[k].toNat : Int) := by omega
      have hz := HZ.out
      have hlen : (asInts (T.take k)).length + 1 ≤ 17592186044416 := by
        rw [asInts_len, List.length_take]; omega
      have HN : Hid (∀ v3 w3, OwnI w3 (w.heap.size + 1) v3 (asInts (T.take k) ++ [(T[k].toNat : Int)]) → (∀ B W, B ≤ w.heap.size + 1 → Below B W wr → Below B W w3) → SR w T v3 (.int .i64 ((k : Int) + 1)) w3) := fun v3 w3 ho hB => by
        have h1 := hB (w.heap.size + 1) wr (Nat.le_refl _) (Below.refl _ _)
        refine ⟨k + 1, by omega, by simp, ?_, hB _ _ (Nat.le_succ _) HB.out, fun j h => ?_, Nat.le_trans HZ.out h1.size⟩
        · rw [Hid, asInts_step T k hlt]; exact ho
        · exact (h1.cell (p := ⟨w.heap.size, j, none⟩) (Nat.lt_succ_self _)).trans (HC.out j h)
      clear hb HC HZ HB
      generalize hL : asInts (T.take k) = l at *
      obtain ⟨al, cl, es⟩ : ∃ a c, u3 = Value.slice a l.length c := by
        obtain ⟨a, c, h, _⟩ := RdI.own HO.out
        exact ⟨a, c, h⟩
      subst es
      generalize (T[k].toNat : Int) = z at *
      have HW : Hid (#[.int .i64 z] = (icells [z]).toArray) := Hid.mk' rfl
      clear hL
      go_wp2_with (at_builtin; refine wpList_append_i _ (by rfl) _ _ rfl (w.heap.size + 1) (.slice al l.length cl) l [z] rfl HO.out _ HW.out _ _ rfl rfl (by simp) hz ?c1 ?_)
      case c1 => simpa using hlen
      intro v3 w3 ho3 hB3
      have HN2 := Hid.mk' (HN.out v3 w3 ho3 hB3)
      clear ho3 hB3 HN HW HO c1
      go_wp2
      go_roundw
      case rel => exact HN2.out
      case measure => simp [RowKit.intOf]; omega
    · obtain rfl : k = T.length := by omega
      have HE : Hid (OwnI wr w.heap.size u3 (asInts T)) := by
        have h := HO.out
        rw [List.take_length] at h
        exact h.weak (Nat.le_succ _)
      clear HC HO HZ
      go_wp2
      go_ret
      exact ⟨_, rfl, HE.out, HB.out⟩
end Go.Proofs.YtneiiinheimglaaGreatDoor.B
