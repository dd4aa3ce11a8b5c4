/-
  Contract of mask.Bytes; condition: four words of 64 bits.
-/
import Derived.Test.YtipdnkkkigmkdaaDoorHHas
import Derived.Deep.LoopGhost
import Derived.BigRegion
namespace Go.Proofs.YtipdnkkkigmkdaaDoor.H
open Go.RowKit Go.Lib Go.Proofs.YtipdnkkkigmkdaaDoor Go.Proofs.YtipdnkkkigmkdaaDoor.W Go.Proofs.YtipdnkkkigmkdaaDoor.Q

/-- append(v, bytes that were just laid): v owned -/
theorem wpList_append_b (w : World) {ops : Array Oper} {rest : List Oper} {o : Oper} {a : Act} {Q : Exit → Act → World → Prop} (hwd : Region.wanted o (yielded ops a.tmps) = true) (s x : Operand)
    (ho : o.op = .call { callee := .builtin .append, args := #[s, x], argTypes := #[39, 39] })
    (base : Nat) (v : Value) (l m : List UInt8) (hs : a.eval s = v) (hown : OwnB w base v l) (ws : Array Value) (hws : ws = (bcells m).toArray) (k c : Nat) (hx : a.eval x = .slice (some ⟨w.heap.size, 0, none⟩) k c) (hk : k = m.length) (hm : 0 < m.length) (hb : base ≤ w.heap.size) (hn : l.length + m.length ≤ 100000000000)
    (h : ∀ v' w', OwnB w' base v' (l ++ m) → (∀ B W, B ≤ base → Below B W w → Below B W w') → wpList Tryd.prog ops Q rest (a.put o.dst v') w') : wpList Tryd.prog ops Q (o :: rest) a (w.alloc (.cells ws 5)) := by
  obtain ⟨i0, hi, hz0, hz1, hz2⟩ := info_parts infoByte
  unfold OwnB at hown h
  subst hws hk
  have hown' : OwnR (w.alloc (.cells (bcells m).toArray 5)) base 5 1 v l.length (bcells l) := hown.keptAt fun k hk => Below.heap_alloc _ _ _ (hown.lt k hk).2
  obtain ⟨g, c2, w', a1, a2, a3, _, _⟩ := run_append_R (P := Tryd.prog) (w.alloc (.cells (bcells m).toArray 5)) 39 o.type base 5 i0 (.int .u8 0) 1 1 Tryd.underlying39 hi hz0 hz1 hz2 rfl (by decide) v l.length (bcells l) hown' ⟨w.heap.size, 0, none⟩ m.length c (bcells m) (by simp [bcells])
    (fun j u hu => World.news_of_block (MapKept.heap_alloc w (.cells (bcells m).toArray 5)).1 j u (by simpa using hu)) (bcells_one m) hm (by unfold maxLen; omega) (by omega) (by simp; omega) _ rfl
  refine wpList_step fun K hK => ?_
  rw [if_pos hwd]
  unfold Oper.wp execOp
  simp only [ho, resolve, invoke, builtin, Sem.run_bind, Sem.run_pure, Result.andThen_ok, List.map_toArray, List.map_cons, List.map_nil, hs, hx, a1]
  refine hK _ _ (h _ w' ?_ ?_)
  · rw [List.length_append, bcells_app]; exact a2
  · exact fun B W hB hBW => (hBW.alloc (by omega) _).grown a3 (by simp; omega) (fun k hk => by have := (hown.lt k hk).1; omega)


def BS (w : World) (M : List Nat) (top : Nat) (g : Nat) (s3 s5 : Value) (wr : World) : Prop :=
  ∃ (n : Nat), n ≤ 256 ∧ 256 - n ≤ g ∧ s5 = .int .i64 (n : Int) ∧ Hid (Box wr w.heap.size 25 (ucells M)) ∧ Hid (OwnB wr top s3 (bytesN M n)) ∧ Hid (Below w.heap.size w wr) ∧ top ≤ wr.heap.size

set_option maxHeartbeats 4000000 in
set_option maxRecDepth 100000 in
theorem Bytes_any (M : List Nat) (hM : okW M) (w : World) :
    Calls Tryd.prog 12 #[MV M] w fun e w' => e = .returned (.string (bs (bytesOf M))) ∧ Below w.heap.size w w' := by
  have HS := Hid.mk' (sizeMV hM)
  have HH := Hid.mk' (Has_any M hM)
  have HST : Hid (∀ w1 : World, Box w1 w.heap.size 25 (ucells M) → Below w.heap.size w w1 → BS w M w1.heap.size 256 (.slice none 0 0) (.int .i64 0) w1) := fun w1 h1 h2 => ⟨0, Nat.zero_le _, by omega, rfl, h1, OwnB.nil _ _, h2, Nat.le_refl _⟩
  have HR : Hid (∀ v wr top, OwnB wr top v (bytesN M 256) → (convert 39 9 v).run Tryd.prog wr = .ok (.string (bs (bytesOf M))) wr) := fun v wr top h => run_str h
  unfold MV at *
  generalize bs (bytesOf M) = R at *
  go_enter Tryd.func12, Tryd.ntmps12
  go_wp2_with (refine wpList_box (ucells M) 25 rfl _ rfl rfl ?_)
  intro w1 m1
  have z1 := m1.lt
  have HST1 := Hid.mk' (HST.out w1 m1.box (m1.below _ _ (Nat.le_refl _) (Below.refl _ w)))
  clear m1 HST
  go_wp2_with fail
  go_loopg [3, 5] 256 (fun g s3 s5 wr => BS w M w1.heap.size g s3 s5 wr)
  case atStart => exact HST1.out
  case round =>
    obtain ⟨n, hn, hg, rfl, HB, HO, HBL, htop⟩ := hrel
    clear HST1
    have HG := Hid.mk' hg
    clear hg
    by_cases hlt : n < 256
    · have hu : (UInt8.ofNat n).toNat = n := by rw [UInt8.toNat_ofNat']; omega
      have HH1 := Hid.mk' (HH.out (UInt8.ofNat n))
      rw [hu] at HH1
      have HT := Hid.mk' (bytesN_succ M n)
      have HL := Hid.mk' (bytesN_len M n)
      have HW : Hid (#[.int .u8 (n : Int)] = (bcells [UInt8.ofNat n]).toArray) := by
        have : bcells [UInt8.ofNat n] = [.int .u8 (((UInt8.ofNat n).toNat : Nat) : Int)] := rfl
        rw [Hid, this, hu]
      have b0 := HB.out
      go_wp2_with (with_reducible refine wpList_load_box 25 25 (ucells M) w.heap.size _ Tryd.underlying25 rfl HS.out b0 rfl _ rfl rfl ?_)
      refine (HH1.out _).mono ?_
      rintro e w3 ⟨rfl, h3⟩
      have HB3 := Hid.mk' (b0.later h3)
      have HO3 : Hid (OwnB w3 w1.heap.size u3 (bytesN M n)) := OwnB.below HO.out h3
      have HBL3 := Hid.mk' (HBL.out.trans (h3.mono HBL.out.size))
      have t3 : w1.heap.size ≤ w3.heap.size := Nat.le_trans htop h3.size
      clear b0 h3 HB HO HBL HH1
      cases hm : mem M n with
      | true =>
        rw [hm, if_pos rfl] at HT
        generalize hbn : bytesN M n = L at *
        clear hbn hu
        have hl2 : L.length ≤ 256 := Nat.le_trans HL.out hn
        go_wp2_with (at_builtin; refine wpList_append_b _ (by rfl) _ _ rfl w1.heap.size u3 L [UInt8.ofNat n] rfl HO3.out _ HW.out _ _ rfl rfl (by simp) t3 ?c1 ?_)
        case c1 => simp; omega
        intro v' w4 ho hb4
        have HB4 := Hid.mk' (HB3.out.kept ((hb4 w1.heap.size w3 (Nat.le_refl _) (Below.refl _ _)).block _ z1))
        have HO4 : Hid (OwnB w4 w1.heap.size v' (bytesN M (n + 1))) := by rw [HT.out]; exact ho
        have HBL4 := Hid.mk' (hb4 w.heap.size w (by omega) HBL3.out)
        have t4 : w1.heap.size ≤ w4.heap.size := Nat.le_trans t3 (hb4 0 w3 (Nat.zero_le _) (Below.refl _ _)).size
        clear ho hb4 HB3 HO3 HBL3 HT
        go_wp2
        go_roundg (256 - (n + 1))
        case measure => have := HG.out; omega
        case rel => exact ⟨n + 1, by omega, Nat.le_refl _, by go_num, HB4, HO4, HBL4, t4⟩
      | false =>
        rw [hm, if_neg (by simp), List.append_nil] at HT
        have HO4 : Hid (OwnB w3 w1.heap.size u3 (bytesN M (n + 1))) := by rw [HT.out]; exact HO3
        clear HO3 HT
        go_wp2
        go_roundg (256 - (n + 1))
        case measure => have := HG.out; omega
        case rel => exact ⟨n + 1, by omega, Nat.le_refl _, by go_num, HB3, HO4, HBL3, t3⟩
    · obtain rfl : n = 256 := by omega
      have hcv := HR.out _ _ _ HO.out
      go_wp2
      go_ret
      exact ⟨rfl, HBL.out⟩
end Go.Proofs.YtipdnkkkigmkdaaDoor.H
