/-
  Contract of farkeep.lineKeys: the common keys; no condition.
-/
import Derived.Test.YtomgnnbcaficaaaDoorLTyped
namespace Go.Proofs.YtomgnnbcaficaaaDoor.L
open Go.RowKit Go.Lib Go.Proofs.YtomgnnbcaficaaaDoor Go.Proofs.YtomgnnbcaficaaaDoor.W Go.Proofs.YtomgnnbcaficaaaDoor.Q

/-- so many of the common keys -/
def comK (n : Nat) : List UInt8 := ([(10, 127), (11, 21), (12, 23), (13, 18), (14, 22)].take n).foldl (fun k p => K.put k p.1 2 p.2) K.noK
theorem comK_len (n : Nat) (hn : n ≤ 5) : (comK n).length = 38 := by
  have h : ∀ i : Fin 6, (comK i.val).length = 38 := by decide
  exact h ⟨n, by omega⟩
def comF (n : Nat) : Nat := 10 + n
def comC (n : Nat) : UInt8 := [127, 21, 23, 18, 22].getD n 0
theorem comK_succ (n : Nat) (hn : n < 5) : comK (n + 1) = K.put (comK n) (10 + n) 2 (comC n) := by
  have h : ∀ i : Fin 5, comK (i.val + 1) = K.put (comK i.val) (10 + i.val) 2 (comC i.val) := by decide
  exact h ⟨n, hn⟩
def KSt (w : World) (w1 w2 w3 : Nat) (g : Nat) (v : Value) (wr : World) : Prop :=
  ∃ n : Nat, n ≤ 5 ∧ 5 - n ≤ g ∧ v = .int .i64 (n : Int) ∧ Hid (Box wr w1 26 (bcells K.noK)) ∧ Hid (Box wr w2 26 (bcells (comK n))) ∧ Hid (∀ j, j < 5 → wr.cell? ⟨w3, j, none⟩ = some (.int .i64 ((10 + j : Nat) : Int))) ∧ Hid (Below w.heap.size w wr) ∧ w3 < wr.heap.size

set_option maxHeartbeats 8000000 in
set_option maxRecDepth 100000 in
theorem lineKeys_any (w : World) : Calls Tryd.prog 23 #[] w fun e w' => e = .returned (K.KV (comK 5)) ∧ Below w.heap.size w w' := by
  have HZ := Hid.mk' K.zeroK
  have HL := Hid.mk' comK_len
  have HS := Hid.mk' comK_succ
  go_enter Tryd.func23, Tryd.ntmps23
  go_wp2_with (refine wpList_alloc (bcells K.noK) 26 HZ.out rfl rfl ?_)
  intro w1 m1
  go_wp2_with (refine wpList_alloc (bcells K.noK) 26 HZ.out rfl rfl ?_)
  intro w2 m2
  have z2 := m2.lt
  have z1 := m1.lt
  have b1 := Hid.mk' (m2.keep m1.box)
  have b2 := Hid.mk' m2.box
  have HB2 := Hid.mk' (m2.below w.heap.size w (by omega) (m1.below _ _ (Nat.le_refl _) (Below.refl _ w)))
  clear m1 m2
  have HB3 : Hid (KSt w w.heap.size w1.heap.size w2.heap.size 5 (.int .i64 0) (w2.alloc (.cells #[.int .i64 10, .int .i64 11, .int .i64 12, .int .i64 13, .int .i64 14] 3))) := by
    refine ⟨0, Nat.zero_le _, Nat.le_refl _, rfl, b1.out.alloc _, b2.out.alloc _, fun j hj => ?_, HB2.out.alloc (by omega) _, by simp⟩
    have hb := Box.new w2 3 [.int .i64 10, .int .i64 11, .int .i64 12, .int .i64 13, .int .i64 14]
    have hj2 : j = 0 ∨ j = 1 ∨ j = 2 ∨ j = 3 ∨ j = 4 := by omega
    rcases hj2 with rfl | rfl | rfl | rfl | rfl <;> exact hb.cell rfl
  clear b1 b2 HB2
  go_wp2_with fail
  go_loopg [6] 5 (fun g s6 wr => KSt w w.heap.size w1.heap.size w2.heap.size g s6 wr)
  case atStart => exact HB3.out
  case round =>
    obtain ⟨n, hn, hg, rfl, HB1, HBK, HC, HB, hlt⟩ := hrel
    have HG := Hid.mk' hg
    clear hg HB3
    by_cases h5 : n < 5
    · have e0 := HC.out n h5
      have e1 := HBK.out.cell (K.bcells_lv _ (HL.out n (by omega)) (10 + n) (by omega))
      have e2 := HBK.out.cell (K.bcells_ch _ (HL.out n (by omega)) (10 + n) (by omega))
      have f1 := HBK.out.frozen (10 + n)
      have f2 := HBK.out.frozen (19 + (10 + n))
      have HBX := Hid.mk' ((HBK.out.setCell (10 + n) (.int .u8 2)).setCell (19 + (10 + n)) (.int .u8 ((comC n).toNat : Int)))
      have HEQ : Hid (((bcells (comK n)).set (10 + n) (.int .u8 2)).set (19 + (10 + n)) (.int .u8 ((comC n).toNat : Int)) = bcells (comK (n + 1))) := by
        have := K.bcells_put (comK n) (10 + n) 2 (comC n)
        rw [← HS.out n h5] at this
        exact this.symm
      have hnn : n = 0 ∨ n = 1 ∨ n = 2 ∨ n = 3 ∨ n = 4 := by omega
      clear HZ HL HS
      rcases hnn with rfl | rfl | rfl | rfl | rfl
      · go_wp2
        go_region
        go_wp2
        go_roundg (5 - (0 + 1))
        case measure => have := HG.out; omega
        case rel =>
          refine ⟨0 + 1, by omega, Nat.le_refl _, by first | rfl | go_num, ?_, ?_, ?_, ?_, ?_⟩
          · exact HB1.out.kept ((setCell_other _ _ _ _ (by omega)).trans (setCell_other _ _ _ _ (by omega)))
          · have h := HBX.out
            rw [HEQ.out] at h
            exact h
          · intro j hj
            have h := HC.out j hj
            exact (World.cell?_of_block ((setCell_other _ _ _ _ (by show w2.heap.size ≠ w1.heap.size; omega)).trans (setCell_other _ _ _ _ (by show w2.heap.size ≠ w1.heap.size; omega)))).trans h
          · exact ((HB.out.setCell (p := ⟨w1.heap.size, _, none⟩) (by show w.heap.size ≤ w1.heap.size; omega) _).setCell (p := ⟨w1.heap.size, _, none⟩) (by show w.heap.size ≤ w1.heap.size; omega) _).drew
          · simp [World.setCell]; omega
      · go_wp2
        go_region
        go_wp2
        go_roundg (5 - (1 + 1))
        case measure => have := HG.out; omega
        case rel =>
          refine ⟨1 + 1, by omega, Nat.le_refl _, by first | rfl | go_num, ?_, ?_, ?_, ?_, ?_⟩
          · exact HB1.out.kept ((setCell_other _ _ _ _ (by omega)).trans (setCell_other _ _ _ _ (by omega)))
          · have h := HBX.out
            rw [HEQ.out] at h
            exact h
          · intro j hj
            have h := HC.out j hj
            exact (World.cell?_of_block ((setCell_other _ _ _ _ (by show w2.heap.size ≠ w1.heap.size; omega)).trans (setCell_other _ _ _ _ (by show w2.heap.size ≠ w1.heap.size; omega)))).trans h
          · exact ((HB.out.setCell (p := ⟨w1.heap.size, _, none⟩) (by show w.heap.size ≤ w1.heap.size; omega) _).setCell (p := ⟨w1.heap.size, _, none⟩) (by show w.heap.size ≤ w1.heap.size; omega) _).drew
          · simp [World.setCell]; omega
      · go_wp2
        go_region
        go_wp2
        go_roundg (5 - (2 + 1))
        case measure => have := HG.out; omega
        case rel =>
          refine ⟨2 + 1, by omega, Nat.le_refl _, by first | rfl | go_num, ?_, ?_, ?_, ?_, ?_⟩
          · exact HB1.out.kept ((setCell_other _ _ _ _ (by omega)).trans (setCell_other _ _ _ _ (by omega)))
          · have h := HBX.out
            rw [HEQ.out] at h
            exact h
          · intro j hj
            have h := HC.out j hj
            exact (World.cell?_of_block ((setCell_other _ _ _ _ (by show w2.heap.size ≠ w1.heap.size; omega)).trans (setCell_other _ _ _ _ (by show w2.heap.size ≠ w1.heap.size; omega)))).trans h
          · exact ((HB.out.setCell (p := ⟨w1.heap.size, _, none⟩) (by show w.heap.size ≤ w1.heap.size; omega) _).setCell (p := ⟨w1.heap.size, _, none⟩) (by show w.heap.size ≤ w1.heap.size; omega) _).drew
          · simp [World.setCell]; omega
      · go_wp2
        go_region
        go_wp2
        go_roundg (5 - (3 + 1))
        case measure => have := HG.out; omega
        case rel =>
          refine ⟨3 + 1, by omega, Nat.le_refl _, by first | rfl | go_num, ?_, ?_, ?_, ?_, ?_⟩
          · exact HB1.out.kept ((setCell_other _ _ _ _ (by omega)).trans (setCell_other _ _ _ _ (by omega)))
          · have h := HBX.out
            rw [HEQ.out] at h
            exact h
          · intro j hj
            have h := HC.out j hj
            exact (World.cell?_of_block ((setCell_other _ _ _ _ (by show w2.heap.size ≠ w1.heap.size; omega)).trans (setCell_other _ _ _ _ (by show w2.heap.size ≠ w1.heap.size; omega)))).trans h
          · exact ((HB.out.setCell (p := ⟨w1.heap.size, _, none⟩) (by show w.heap.size ≤ w1.heap.size; omega) _).setCell (p := ⟨w1.heap.size, _, none⟩) (by show w.heap.size ≤ w1.heap.size; omega) _).drew
          · simp [World.setCell]; omega
      · go_wp2
        go_region
        go_wp2
        go_roundg (5 - (4 + 1))
        case measure => have := HG.out; omega
        case rel =>
          refine ⟨4 + 1, by omega, Nat.le_refl _, by first | rfl | go_num, ?_, ?_, ?_, ?_, ?_⟩
          · exact HB1.out.kept ((setCell_other _ _ _ _ (by omega)).trans (setCell_other _ _ _ _ (by omega)))
          · have h := HBX.out
            rw [HEQ.out] at h
            exact h
          · intro j hj
            have h := HC.out j hj
            exact (World.cell?_of_block ((setCell_other _ _ _ _ (by show w2.heap.size ≠ w1.heap.size; omega)).trans (setCell_other _ _ _ _ (by show w2.heap.size ≠ w1.heap.size; omega)))).trans h
          · exact ((HB.out.setCell (p := ⟨w1.heap.size, _, none⟩) (by show w.heap.size ≤ w1.heap.size; omega) _).setCell (p := ⟨w1.heap.size, _, none⟩) (by show w.heap.size ≤ w1.heap.size; omega) _).drew
          · simp [World.setCell]; omega
    · obtain rfl : n = 5 := by omega
      have hsz : Hid ((Tryd.prog.info? 26).map (·.size) = some (bcells (comK 5)).length) := K.sizeKV _ (HL.out 5 (Nat.le_refl _))
      have hone := Hid.mk' (bcells_one (comK 5))
      have hlen : Hid ((bcells K.noK).length = (bcells (comK 5)).length) := rfl
      go_wp2_with (first | (refine wpList_load_box 26 26 (bcells (comK 5)) w1.heap.size _ Tryd.underlying26 rfl hsz.out HBK.out rfl _ rfl rfl ?_) | (refine wpList_store_box 26 26 (bcells K.noK) (bcells (comK 5)) w.heap.size hsz.out hone.out HB1.out hlen.out rfl _ _ rfl rfl rfl ?_))
      intro w5 s5
      have b5 := Hid.mk' s5.box
      have HB5 := Hid.mk' (s5.below w.heap.size w (Nat.le_refl _) HB.out)
      clear s5
      go_wp2
      exact ret_box rfl 26 (bcells (comK 5)) w.heap.size _ Tryd.underlying26 rfl hsz.out rfl b5.out rfl ⟨rfl, HB5.out⟩
end Go.Proofs.YtomgnnbcaficaaaDoor.L
