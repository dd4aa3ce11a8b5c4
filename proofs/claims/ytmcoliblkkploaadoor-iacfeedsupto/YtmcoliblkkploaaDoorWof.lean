/-
  Contract of farref.WireOf: the wire of the bytes of a token that isn't whole; conditions: at most 8000000 bytes, and the variable internal/bytealg.MaxLen holds some int.
-/
import Derived.Test.YtmcoliblkkploaaDoorWofs
namespace Go.Proofs.YtmcoliblkkploaaDoor
open Go.RowKit

theorem Replace_two (s : List UInt8) (m : Int) (w : World) (hs : s.length ≤ 100000000) (hm : w.cell? ⟨0, 0, none⟩ = some (.int .i64 m)) :
    Calls Tryd.prog 32 #[.string ⟨s.toArray⟩, .string ⟨#[255, 255]⟩, .string ⟨#[255]⟩] w fun e w' => e = .returned (.string ⟨(un s).toArray⟩) ∧ Below w.heap.size w w' := by
  have hsz : (⟨s.toArray⟩ : ByteArray).size = s.length := by simp [ByteArray.size]
  have hc : Lib.countB ⟨s.toArray⟩ ⟨#[255, 255]⟩ ≤ s.length + 1 := by
    have := Lib.count_le s [255, 255]
    simpa [Lib.countB] using this
  have H := Tryd.strings_ReplaceAll ⟨s.toArray⟩ ⟨#[255, 255]⟩ ⟨#[255]⟩ m w (by rw [hsz]; omega) hm (by decide) (by
    rw [hsz]
    have e : (⟨#[255]⟩ : ByteArray).size = 1 := rfl
    rw [e]; omega)
  simp only [] at H
  rw [un_all] at H
  exact H

theorem wdsW_small (o : UInt8) (d : List UInt8) (b : Bool) (h : d.length ≤ 4096) : wdsW o d b = ⟨if b then 5 else 4, 0, o.toNat, d, false⟩ := by unfold wdsW wds; rw [if_pos h]; rfl
theorem wdsW_big (o : UInt8) (d : List UInt8) (b : Bool) (h : ¬ d.length ≤ 4096) : wdsW o d b = ⟨if b then 5 else 4, 0, o.toNat, [], true⟩ := by unfold wdsW wds; rw [if_neg h]; rfl

set_option maxHeartbeats 4000000 in
set_option maxRecDepth 100000 in
theorem WireOf_loop (S D2 : ByteArray) (M : List UInt8) (o : UInt8) (b : Bool) (d' : List UInt8) (m : Int) (w : World) (hl : S.size ≤ 8000000) (h3 : 3 ≤ S.size) (e2 : S[2]'(by omega) = o) (xk : S.extract 3 S.size = D2)
    (hsz : D2.size = M.length) (HG : Hid (∀ k (h : k < M.length) (h2 : k < D2.size), D2[k] = M[k])) (HC : Hid (D2.extract 0 (M.length - 1) = ⟨M.dropLast.toArray⟩)) (HD : Hid (D2 = ⟨M.toArray⟩)) (n0 : S.toList.isEmpty = false)
    (hM : M.length ≤ 8000000) (htr : trail M % 2 = if b then 1 else 0) (hd : d' = un (if b then M.dropLast else M)) (hne : b = true → M ≠ []) (hm : w.cell? ⟨0, 0, none⟩ = some (.int .i64 m)) :
    Calls Tryd.prog 15 #[.string S] w fun e w' => e = .returned (wdsW o d' b).val ∧ Below w.heap.size w w' := by
  have b3 : (o.toNat : Int) ≤ 255 := by have := o.toNat_lt; omega
  have n1 : ((S.size : Int) == 1) = false := by simp; omega
  have n2 : ((S.size : Int) == 2) = false := by simp; omega
  have HTR := Hid.mk' htr
  have HDD := Hid.mk' hd
  have HRA := Hid.mk' (runs_all M.reverse)
  have HNE := Hid.mk' hne
  clear htr hd hne
  have h0 : 0 < w.heap.size := World.block_lt_of_cell? _ _ hm
  have HM : Hid (∀ W, Below w.heap.size w W → W.cell? ⟨0, 0, none⟩ = some (.int .i64 m)) := fun W hb => (hb.cell (p := ⟨0, 0, none⟩) h0).trans hm
  clear hm
  obtain ⟨P, hP⟩ : ∃ P, P = (wdsW o d' b).val := ⟨_, rfl⟩
  rw [← hP]
  have HP := Hid.mk' hP
  clear hP
  go_enter Tryd.func15, Tryd.ntmps15
  go_wp2_with fail
  go_loopw [5] (fun i wr => ∃ k : Nat, k ≤ M.length ∧ i = .int .i64 k ∧ Hid (∀ j (h : j < M.reverse.length), j < k → M.reverse[j].toNat = 255) ∧ wr = (w.alloc (.cells #[.int .i64 0, .int .i64 0, .int .i64 0, .string ⟨#[]⟩, .bool false] 23)).alloc (.cells #[.int .i64 4, .int .i64 0, .int .i64 (o.toNat : Int), .string ⟨#[]⟩, .bool false] 23)) (fun i _ => M.length - (intOf i).toNat)
  case atStart => exact ⟨0, Nat.zero_le _, rfl, fun j _ h => absurd h (Nat.not_lt_zero _), rfl⟩
  case round =>
    obtain ⟨k, hk, rfl, HAL, rfl⟩ := hrel
    by_cases hlt : k < M.length
    · obtain ⟨q, hq⟩ : ∃ q, q = M.length - 1 - k := ⟨_, rfl⟩
      have hi1 : q < M.length := by omega
      have hi2 : q < D2.size := by omega
      have eg := HG.out q hi1 hi2
      have er : M.reverse[k]'(by simpa using hlt) = M[q] := by simp [hq]
      have HER := Hid.mk' er
      have hqi : (M.length : Int) - 1 - (k : Int) = (q : Int) := by omega
      clear er hq
      generalize M[q] = c at *
      by_cases hc : c.toNat = 255
      · have p1 : (c.toNat : Int) = 255 := by omega
        have HCC := Hid.mk' hc
        clear hc
        go_wp2
        refine ⟨⟨k + 1, by omega, by simp, ?_, trivial⟩, by simp [intOf]; omega⟩
        refine Hid.mk' fun j h hj => ?_
        by_cases e : j = k
        · subst e; rw [HER.out]; exact HCC.out
        · exact HAL.out j h (by omega)
      · have p1 : ((c.toNat : Int) == 255) = false := by rw [beq_eq_false_iff_ne]; omega
        have p2 : ¬ (c.toNat : Int) = 255 := by omega
        have hrun := HRA.out k HAL.out (by simpa using hk) (fun h => by rw [HER.out]; exact hc)
        clear hc
        have htk : k % 2 = if b then 1 else 0 := by
          have h := HTR.out
          unfold trail at h
          rw [hrun] at h
          exact h
        clear hrun
        cases b with
        | true =>
          simp only [if_true] at htk HDD
          have r1 : (k : Int) % 2 = 1 := by omega
          have r2 : (k : Int).tmod 2 = 1 := by rw [Int.tmod_eq_emod_of_nonneg (by omega)]; omega
          have hml : 0 < M.length := List.length_pos_iff.2 (HNE.out rfl)
          clear htk
          have HRP := Hid.mk' (fun W (hW : World.cell? W ⟨0, 0, none⟩ = some (.int .i64 m)) => Replace_two M.dropLast m W (by simp; omega) hW)
          go_wp2_with fail
          obtain ⟨q2, hq2⟩ : ∃ q2, M.length = q2 + 1 := ⟨M.length - 1, by omega⟩
          have hx2 := HC.out
          rw [show M.length - 1 = q2 by omega] at hx2
          have hl2 : (M.length : Int) - 1 = (q2 : Int) := by omega
          generalize (⟨M.dropLast.toArray⟩ : ByteArray) = D3 at hx2 HRP
          go_region
          all_goals
            go_wp2_with fail
            refine (HRP.out _ (HM.out _ ?hbw)).mono ?_
            case hbw => repeat (first | exact Below.refl _ _ | refine Below.drew ?_ | refine Below.setCell ?_ (by simp) _ | refine Below.alloc ?_ (by simp) _)
            rintro e w2 ⟨rfl, hb2⟩
            have HB2 : Hid (Below w.heap.size w w2) := (((Below.refl w.heap.size w).alloc (Nat.le_refl _) _).alloc (by simp) _).drew.trans (hb2.mono (by simp; omega))
            have d2 : ∀ j, w2.cell? ⟨w.heap.size + 1, j, none⟩ = (#[.int .i64 5, .int .i64 0, .int .i64 (o.toNat : Int), .string ⟨#[]⟩, .bool false] : Array Value)[j]? := fun j => (hb2.cell (p := ⟨w.heap.size + 1, j, none⟩) (by simp)).trans (World.cell?_alloc_at _ _ _ _ (by simp))
            have f2 : ∀ j, w2.frozen? ⟨w.heap.size + 1, j, none⟩ = false := fun j => (hb2.frozen (p := ⟨w.heap.size + 1, j, none⟩) (by simp)).trans (World.frozen?_alloc_at _ _ _ _ (by simp))
            have d3 : ∀ j, w2.cell? ⟨w.heap.size, j, none⟩ = (#[.int .i64 0, .int .i64 0, .int .i64 0, .string ⟨#[]⟩, .bool false] : Array Value)[j]? := fun j => (hb2.cell (p := ⟨w.heap.size, j, none⟩) (by simp; omega)).trans ((World.cell?_alloc_past _ _ _ (by simp)).trans (World.cell?_alloc_at _ _ _ _ rfl))
            have f3 : ∀ j, w2.frozen? ⟨w.heap.size, j, none⟩ = false := fun j => (hb2.frozen (p := ⟨w.heap.size, j, none⟩) (by simp; omega)).trans ((World.frozen?_alloc_past _ _ _ (by simp)).trans (World.frozen?_alloc_at _ _ _ _ rfl))
            clear hb2
            by_cases hle : (un (M.dropLast)).length ≤ 4096
            · have HV := Hid.mk' (HP.out.trans (congrArg Wr.val ((congrArg (wdsW o · true) HDD.out).trans (wdsW_small o (un (M.dropLast)) true hle))))
              have hl4 : ¬ (4096 : Int) < ((un (M.dropLast)).length : Int) := by omega
              have hun := un_length ((M.dropLast))
              have hul : (un (M.dropLast)).length ≤ 8000000 := by simp at hun; omega
              clear hle hun
              go_wp2
              refine wire_ret _ _ _ _ _ _ _ (fun j hj => ?_) rfl rfl ⟨by rw [HV.out] <;> rfl, ?_⟩
              · repeat rw [World.cell?_setCell_far _ _ _ _ (by simp)]
                rw [d3 j]
                rcases (by omega : j = 0 ∨ j = 1 ∨ j = 2 ∨ j = 3 ∨ j = 4) with rfl | rfl | rfl | rfl | rfl <;> rfl
              · repeat (refine Below.setCell ?_ (by simp) _)
                exact HB2.out
            · have HV := Hid.mk' (HP.out.trans (congrArg Wr.val ((congrArg (wdsW o · true) HDD.out).trans (wdsW_big o (un (M.dropLast)) true hle))))
              have hl4 : (4096 : Int) < ((un (M.dropLast)).length : Int) := by omega
              have hun := un_length ((M.dropLast))
              have hul : (un (M.dropLast)).length ≤ 8000000 := by simp at hun; omega
              clear hle hun
              go_wp2
              refine wire_ret _ _ _ _ _ _ _ (fun j hj => ?_) rfl rfl ⟨by rw [HV.out] <;> rfl, ?_⟩
              · repeat rw [World.cell?_setCell_far _ _ _ _ (by simp)]
                rw [d3 j]
                rcases (by omega : j = 0 ∨ j = 1 ∨ j = 2 ∨ j = 3 ∨ j = 4) with rfl | rfl | rfl | rfl | rfl <;> rfl
              · repeat (refine Below.setCell ?_ (by simp) _)
                exact HB2.out
        | false =>
          simp only [Bool.false_eq_true, if_false] at htk HDD
          have r1 : (k : Int) % 2 = 0 := by omega
          have r2 : (k : Int).tmod 2 = 0 := by rw [Int.tmod_eq_emod_of_nonneg (by omega)]; omega
          clear htk
          have HRP := Hid.mk' (fun W (hW : World.cell? W ⟨0, 0, none⟩ = some (.int .i64 m)) => Replace_two M m W (by omega) hW)
          rw [← HD.out] at HRP
          go_wp2_with fail
          refine (HRP.out _ (HM.out _ ?hbw)).mono ?_
          case hbw => repeat (first | exact Below.refl _ _ | refine Below.drew ?_ | refine Below.setCell ?_ (by simp) _ | refine Below.alloc ?_ (by simp) _)
          rintro e w2 ⟨rfl, hb2⟩
          have HB2 : Hid (Below w.heap.size w w2) := (((Below.refl w.heap.size w).alloc (Nat.le_refl _) _).alloc (by simp) _).trans (hb2.mono (by simp; omega))
          have d2 : ∀ j, w2.cell? ⟨w.heap.size + 1, j, none⟩ = (#[.int .i64 4, .int .i64 0, .int .i64 (o.toNat : Int), .string ⟨#[]⟩, .bool false] : Array Value)[j]? := fun j => (hb2.cell (p := ⟨w.heap.size + 1, j, none⟩) (by simp)).trans (World.cell?_alloc_at _ _ _ _ (by simp))
          have f2 : ∀ j, w2.frozen? ⟨w.heap.size + 1, j, none⟩ = false := fun j => (hb2.frozen (p := ⟨w.heap.size + 1, j, none⟩) (by simp)).trans (World.frozen?_alloc_at _ _ _ _ (by simp))
          have d3 : ∀ j, w2.cell? ⟨w.heap.size, j, none⟩ = (#[.int .i64 0, .int .i64 0, .int .i64 0, .string ⟨#[]⟩, .bool false] : Array Value)[j]? := fun j => (hb2.cell (p := ⟨w.heap.size, j, none⟩) (by simp; omega)).trans ((World.cell?_alloc_past _ _ _ (by simp)).trans (World.cell?_alloc_at _ _ _ _ rfl))
          have f3 : ∀ j, w2.frozen? ⟨w.heap.size, j, none⟩ = false := fun j => (hb2.frozen (p := ⟨w.heap.size, j, none⟩) (by simp; omega)).trans ((World.frozen?_alloc_past _ _ _ (by simp)).trans (World.frozen?_alloc_at _ _ _ _ rfl))
          clear hb2
          by_cases hle : (un M).length ≤ 4096
          · have HV := Hid.mk' (HP.out.trans (congrArg Wr.val ((congrArg (wdsW o · false) HDD.out).trans (wdsW_small o (un M) false hle))))
            have hl4 : ¬ (4096 : Int) < ((un M).length : Int) := by omega
            have hun := un_length (M)
            have hul : (un M).length ≤ 8000000 := by omega
            clear hle hun
            go_wp2
            refine wire_ret _ _ _ _ _ _ _ (fun j hj => ?_) rfl rfl ⟨by rw [HV.out] <;> rfl, ?_⟩
            · repeat rw [World.cell?_setCell_far _ _ _ _ (by simp)]
              rw [d3 j]
              rcases (by omega : j = 0 ∨ j = 1 ∨ j = 2 ∨ j = 3 ∨ j = 4) with rfl | rfl | rfl | rfl | rfl <;> rfl
            · repeat (refine Below.setCell ?_ (by simp) _)
              exact HB2.out
          · have HV := Hid.mk' (HP.out.trans (congrArg Wr.val ((congrArg (wdsW o · false) HDD.out).trans (wdsW_big o (un M) false hle))))
            have hl4 : (4096 : Int) < ((un M).length : Int) := by omega
            have hun := un_length (M)
            have hul : (un M).length ≤ 8000000 := by omega
            clear hle hun
            go_wp2
            refine wire_ret _ _ _ _ _ _ _ (fun j hj => ?_) rfl rfl ⟨by rw [HV.out] <;> rfl, ?_⟩
            · repeat rw [World.cell?_setCell_far _ _ _ _ (by simp)]
              rw [d3 j]
              rcases (by omega : j = 0 ∨ j = 1 ∨ j = 2 ∨ j = 3 ∨ j = 4) with rfl | rfl | rfl | rfl | rfl <;> rfl
            · repeat (refine Below.setCell ?_ (by simp) _)
              exact HB2.out
    · have hkk : k = M.length := by omega
      have hrun := HRA.out k HAL.out (by simpa using hk) (fun h => by simp at h; omega)
      have hnk : ¬ (k : Int) < (M.length : Int) := by omega
      clear hkk
      have htk : k % 2 = if b then 1 else 0 := by
        have h := HTR.out
        unfold trail at h
        rw [hrun] at h
        exact h
      clear hrun
      cases b with
      | true =>
        simp only [if_true] at htk HDD
        have r1 : (k : Int) % 2 = 1 := by omega
        have r2 : (k : Int).tmod 2 = 1 := by rw [Int.tmod_eq_emod_of_nonneg (by omega)]; omega
        have hml : 0 < M.length := List.length_pos_iff.2 (HNE.out rfl)
        clear htk
        have HRP := Hid.mk' (fun W (hW : World.cell? W ⟨0, 0, none⟩ = some (.int .i64 m)) => Replace_two M.dropLast m W (by simp; omega) hW)
        go_wp2_with fail
        obtain ⟨q2, hq2⟩ : ∃ q2, M.length = q2 + 1 := ⟨M.length - 1, by omega⟩
        have hx2 := HC.out
        rw [show M.length - 1 = q2 by omega] at hx2
        have hl2 : (M.length : Int) - 1 = (q2 : Int) := by omega
        generalize (⟨M.dropLast.toArray⟩ : ByteArray) = D3 at hx2 HRP
        go_region
        all_goals
          go_wp2_with fail
          refine (HRP.out _ (HM.out _ ?hbw)).mono ?_
          case hbw => repeat (first | exact Below.refl _ _ | refine Below.drew ?_ | refine Below.setCell ?_ (by simp) _ | refine Below.alloc ?_ (by simp) _)
          rintro e w2 ⟨rfl, hb2⟩
          have HB2 : Hid (Below w.heap.size w w2) := (((Below.refl w.heap.size w).alloc (Nat.le_refl _) _).alloc (by simp) _).drew.trans (hb2.mono (by simp; omega))
          have d2 : ∀ j, w2.cell? ⟨w.heap.size + 1, j, none⟩ = (#[.int .i64 5, .int .i64 0, .int .i64 (o.toNat : Int), .string ⟨#[]⟩, .bool false] : Array Value)[j]? := fun j => (hb2.cell (p := ⟨w.heap.size + 1, j, none⟩) (by simp)).trans (World.cell?_alloc_at _ _ _ _ (by simp))
          have f2 : ∀ j, w2.frozen? ⟨w.heap.size + 1, j, none⟩ = false := fun j => (hb2.frozen (p := ⟨w.heap.size + 1, j, none⟩) (by simp)).trans (World.frozen?_alloc_at _ _ _ _ (by simp))
          have d3 : ∀ j, w2.cell? ⟨w.heap.size, j, none⟩ = (#[.int .i64 0, .int .i64 0, .int .i64 0, .string ⟨#[]⟩, .bool false] : Array Value)[j]? := fun j => (hb2.cell (p := ⟨w.heap.size, j, none⟩) (by simp; omega)).trans ((World.cell?_alloc_past _ _ _ (by simp)).trans (World.cell?_alloc_at _ _ _ _ rfl))
          have f3 : ∀ j, w2.frozen? ⟨w.heap.size, j, none⟩ = false := fun j => (hb2.frozen (p := ⟨w.heap.size, j, none⟩) (by simp; omega)).trans ((World.frozen?_alloc_past _ _ _ (by simp)).trans (World.frozen?_alloc_at _ _ _ _ rfl))
          clear hb2
          by_cases hle : (un (M.dropLast)).length ≤ 4096
          · have HV := Hid.mk' (HP.out.trans (congrArg Wr.val ((congrArg (wdsW o · true) HDD.out).trans (wdsW_small o (un (M.dropLast)) true hle))))
            have hl4 : ¬ (4096 : Int) < ((un (M.dropLast)).length : Int) := by omega
            have hun := un_length ((M.dropLast))
            have hul : (un (M.dropLast)).length ≤ 8000000 := by simp at hun; omega
            clear hle hun
            go_wp2
            refine wire_ret _ _ _ _ _ _ _ (fun j hj => ?_) rfl rfl ⟨by rw [HV.out] <;> rfl, ?_⟩
            · repeat rw [World.cell?_setCell_far _ _ _ _ (by simp)]
              rw [d3 j]
              rcases (by omega : j = 0 ∨ j = 1 ∨ j = 2 ∨ j = 3 ∨ j = 4) with rfl | rfl | rfl | rfl | rfl <;> rfl
            · repeat (refine Below.setCell ?_ (by simp) _)
              exact HB2.out
          · have HV := Hid.mk' (HP.out.trans (congrArg Wr.val ((congrArg (wdsW o · true) HDD.out).trans (wdsW_big o (un (M.dropLast)) true hle))))
            have hl4 : (4096 : Int) < ((un (M.dropLast)).length : Int) := by omega
            have hun := un_length ((M.dropLast))
            have hul : (un (M.dropLast)).length ≤ 8000000 := by simp at hun; omega
            clear hle hun
            go_wp2
            refine wire_ret _ _ _ _ _ _ _ (fun j hj => ?_) rfl rfl ⟨by rw [HV.out] <;> rfl, ?_⟩
            · repeat rw [World.cell?_setCell_far _ _ _ _ (by simp)]
              rw [d3 j]
              rcases (by omega : j = 0 ∨ j = 1 ∨ j = 2 ∨ j = 3 ∨ j = 4) with rfl | rfl | rfl | rfl | rfl <;> rfl
            · repeat (refine Below.setCell ?_ (by simp) _)
              exact HB2.out
      | false =>
        simp only [Bool.false_eq_true, if_false] at htk HDD
        have r1 : (k : Int) % 2 = 0 := by omega
        have r2 : (k : Int).tmod 2 = 0 := by rw [Int.tmod_eq_emod_of_nonneg (by omega)]; omega
        clear htk
        have HRP := Hid.mk' (fun W (hW : World.cell? W ⟨0, 0, none⟩ = some (.int .i64 m)) => Replace_two M m W (by omega) hW)
        rw [← HD.out] at HRP
        go_wp2_with fail
        refine (HRP.out _ (HM.out _ ?hbw)).mono ?_
        case hbw => repeat (first | exact Below.refl _ _ | refine Below.drew ?_ | refine Below.setCell ?_ (by simp) _ | refine Below.alloc ?_ (by simp) _)
        rintro e w2 ⟨rfl, hb2⟩
        have HB2 : Hid (Below w.heap.size w w2) := (((Below.refl w.heap.size w).alloc (Nat.le_refl _) _).alloc (by simp) _).trans (hb2.mono (by simp; omega))
        have d2 : ∀ j, w2.cell? ⟨w.heap.size + 1, j, none⟩ = (#[.int .i64 4, .int .i64 0, .int .i64 (o.toNat : Int), .string ⟨#[]⟩, .bool false] : Array Value)[j]? := fun j => (hb2.cell (p := ⟨w.heap.size + 1, j, none⟩) (by simp)).trans (World.cell?_alloc_at _ _ _ _ (by simp))
        have f2 : ∀ j, w2.frozen? ⟨w.heap.size + 1, j, none⟩ = false := fun j => (hb2.frozen (p := ⟨w.heap.size + 1, j, none⟩) (by simp)).trans (World.frozen?_alloc_at _ _ _ _ (by simp))
        have d3 : ∀ j, w2.cell? ⟨w.heap.size, j, none⟩ = (#[.int .i64 0, .int .i64 0, .int .i64 0, .string ⟨#[]⟩, .bool false] : Array Value)[j]? := fun j => (hb2.cell (p := ⟨w.heap.size, j, none⟩) (by simp; omega)).trans ((World.cell?_alloc_past _ _ _ (by simp)).trans (World.cell?_alloc_at _ _ _ _ rfl))
        have f3 : ∀ j, w2.frozen? ⟨w.heap.size, j, none⟩ = false := fun j => (hb2.frozen (p := ⟨w.heap.size, j, none⟩) (by simp; omega)).trans ((World.frozen?_alloc_past _ _ _ (by simp)).trans (World.frozen?_alloc_at _ _ _ _ rfl))
        clear hb2
        by_cases hle : (un M).length ≤ 4096
        · have HV := Hid.mk' (HP.out.trans (congrArg Wr.val ((congrArg (wdsW o · false) HDD.out).trans (wdsW_small o (un M) false hle))))
          have hl4 : ¬ (4096 : Int) < ((un M).length : Int) := by omega
          have hun := un_length (M)
          have hul : (un M).length ≤ 8000000 := by omega
          clear hle hun
          go_wp2
          refine wire_ret _ _ _ _ _ _ _ (fun j hj => ?_) rfl rfl ⟨by rw [HV.out] <;> rfl, ?_⟩
          · repeat rw [World.cell?_setCell_far _ _ _ _ (by simp)]
            rw [d3 j]
            rcases (by omega : j = 0 ∨ j = 1 ∨ j = 2 ∨ j = 3 ∨ j = 4) with rfl | rfl | rfl | rfl | rfl <;> rfl
          · repeat (refine Below.setCell ?_ (by simp) _)
            exact HB2.out
        · have HV := Hid.mk' (HP.out.trans (congrArg Wr.val ((congrArg (wdsW o · false) HDD.out).trans (wdsW_big o (un M) false hle))))
          have hl4 : (4096 : Int) < ((un M).length : Int) := by omega
          have hun := un_length (M)
          have hul : (un M).length ≤ 8000000 := by omega
          clear hle hun
          go_wp2
          refine wire_ret _ _ _ _ _ _ _ (fun j hj => ?_) rfl rfl ⟨by rw [HV.out] <;> rfl, ?_⟩
          · repeat rw [World.cell?_setCell_far _ _ _ _ (by simp)]
            rw [d3 j]
            rcases (by omega : j = 0 ∨ j = 1 ∨ j = 2 ∨ j = 3 ∨ j = 4) with rfl | rfl | rfl | rfl | rfl <;> rfl
          · repeat (refine Below.setCell ?_ (by simp) _)
            exact HB2.out
end Go.Proofs.YtmcoliblkkploaaDoor
