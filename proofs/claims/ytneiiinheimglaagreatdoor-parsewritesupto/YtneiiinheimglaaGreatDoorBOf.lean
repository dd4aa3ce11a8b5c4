/-
  Contract of farref.ArgsOf: the document's answer is the plain one; conditions: a text of at most 1048576 bytes; the variable internal/bytealg.MaxLen holds an int.
-/
import Derived.Test.YtneiiinheimglaaGreatDoorZOfP
import Derived.Test.YtneiiinheimglaaGreatDoorZShelf
import Derived.Test.YtneiiinheimglaaGreatDoorJ16
import Derived.Lib.ConvBytes
namespace Go.Proofs.YtneiiinheimglaaGreatDoor.Z
open Go.RowKit Go.Lib Go.Proofs.YtneiiinheimglaaGreatDoor Go.Proofs.YtneiiinheimglaaGreatDoor.W Go.Proofs.YtneiiinheimglaaGreatDoor.Q Go.Proofs.YtneiiinheimglaaGreatDoor.C Go.Proofs.YtneiiinheimglaaGreatDoor.B

theorem below_bytes (w : World) (e : TypeId) (s : ByteArray) : Below w.heap.size w (bytesWorld w e s) :=
  ⟨rfl, rfl, rfl, by rw [bytesWorld_size]; omega, fun k hk => bytesWorld_at_old w e s k hk⟩
theorem bytes_cell (w : World) (e : TypeId) (l : List UInt8) (k : Nat) (h : k < l.length) : (bytesWorld w e (bs l)).cell? ⟨w.heap.size, k, none⟩ = some (.int .u8 (l[k].toNat : Int)) := by
  rw [bytesWorld_cell w e (bs l) k (by rw [bs_size]; exact h), data_bs]
  simp [h]
theorem okS_drop (s : List UInt8) (k : Nat) (h : k < s.length) : okS (s.drop k) = (okB s[k] && okS (s.drop (k + 1))) := by
  rw [List.drop_eq_getElem_cons h]
  unfold okS
  rw [List.all_cons]

/-- what the first loop has seen -/
def FSt (w : World) (s : List UInt8) (g : Nat) (s16 : Value) (wr : World) : Prop :=
  ∃ k : Nat, k ≤ s.length ∧ s.length - k ≤ g ∧ s16 = .int .i64 (k : Int) ∧ Hid (okS s = okS (s.drop k)) ∧ wr = w
/-- what the second one has told -/
def GS (w : World) (P : List (List UInt8)) (g : Nat) (s6 s32 : Value) (wr : World) : Prop :=
  ∃ k : Nat, k ≤ P.length ∧ k ≤ 32 ∧ P.length - k ≤ g ∧ s32 = .int .i64 (k : Int) ∧ Hid (OwnI wr w.heap.size s6 ((P.take k).map nref)) ∧ Hid (Below w.heap.size w wr)

set_option maxHeartbeats 16000000 in
set_option maxRecDepth 100000 in
theorem ArgsOf_any (s : List UInt8) (m : Int) (w : World) (hm : w.cell? ⟨2, 0, none⟩ = some (.int .i64 m)) (hs : s.length ≤ 1048576) :
    Calls Tryz.prog 64 #[.string (bs s)] w fun e w' => ∃ v, e = .returned (.tuple #[v, .int .i64 (readT s).2]) ∧ OwnI w' w.heap.size v (readT s).1 ∧ Below w.heap.size w w' := by
  have hcv := Lib.run_convert_string_bytes (P := Tryz.prog) w 9 50 5 (bs s) Tryz.underlying9 Tryz.underlying50 Tryz.underlying5
  have hsz := bs_size s
  rw [hsz] at hcv
  have hge := grownCap_ge w s.length 0 5
  have HB1 := Hid.mk' (below_bytes w 5 (bs s))
  have HC := Hid.mk' (fun k h => bytes_cell w 5 s k h)
  have hz1 : w.heap.size < (bytesWorld w 5 (bs s)).heap.size := by rw [bytesWorld_size]; omega
  have HM : Hid ((bytesWorld w 5 (bs s)).cell? ⟨2, 0, none⟩ = some (.int .i64 m)) := by
    rw [Hid, HB1.out.cell (p := ⟨2, 0, none⟩) (World.block_lt_of_cell? _ _ hm)]; exact hm
  have HSP : Hid (∀ W, W.cell? ⟨2, 0, none⟩ = some (.int .i64 m) → Calls Tryz.prog 74 #[.string (bs s), .string ⟨#[59]⟩] W fun e w' => ∃ n, Hid (n = (pieces 59 s).length) ∧ e = .returned (.slice (some ⟨W.heap.size, 0, none⟩) n n) ∧ Hid (Box w' W.heap.size 9 ((pieces 59 s).map fun p => .string (bs p))) ∧ Below W.heap.size W w') := fun W hW => by
    refine (Tryz.strings_Split (bs s) ⟨#[59]⟩ m W (by omega) hW (Nat.le_refl 1)).mono ?_
    rintro e w' ⟨rfl, rfl⟩
    refine ⟨_, count_pieces s 59, rfl, ?_, (Below.refl _ _).alloc (Nat.le_refl _) _⟩
    rw [Hid, split_pieces]
    exact Box.new W _ _
  have HRD : Hid (okS s = false → readT s = ([], 4)) := fun h => by unfold readT; rw [h, if_neg (by decide)]
  have HRT : Hid (okS s = true → readT s = (((pieces 59 s).map nref).take 32, 0) ∧ ∀ p ∈ pieces 59 s, ∀ b ∈ p, dig b = true) := fun h => by
    refine ⟨?_, pieces_dig s h⟩
    unfold readT
    rw [h, if_pos rfl, rd_ref s h]
  have hpl := pieces_len 59 s
  generalize pieces 59 s = P at *
  generalize hR : readT s = R at *
  clear hR
  generalize bytesWorld w 5 (bs s) = w1 at *
  generalize grownCap w s.length 0 5 = C at *
  generalize bs s = S at *
  have HS0 : Hid (FSt w1 s s.length (.int .i64 0) w1) := ⟨0, Nat.zero_le _, by omega, rfl, by rw [List.drop_zero]; rfl, rfl⟩
  clear hm
  go_enter Tryz.func64, Tryz.ntmps64
  go_wp2_with fail
  go_loopg [16] s.length (fun g s16 wr => FSt w1 s g s16 wr)
  case atStart => exact HS0.out
  case round =>
    obtain ⟨k, hk, hg, rfl, HO, rfl⟩ := hrel
    have HG := Hid.mk' hg
    clear hg HS0 hcv
    by_cases hlt : k < s.length
    · have c1 := HC.out k hlt
      have hd := okS_drop s k hlt
      have hb := s[k].toNat_lt
      have H1 := Hid.mk' (Between_any (s[k].toNat : Int) 48 57 wr)
      have hbt : btw (s[k].toNat : Int) 48 57 = dig s[k] := decide_eq_decide.2 (by omega)
      rw [hbt] at H1
      rw [hd] at HO
      have h59 : ((s[k].toNat : Int) = 59) ↔ s[k] = 59 := ⟨fun h => UInt8.toNat_inj.1 (by show s[k].toNat = 59; omega), fun h => by rw [h]; rfl⟩
      cases hok : okB s[k] with
      | true =>
        rw [hok, Bool.true_and] at HO
        have HN : Hid (FSt wr s (s.length - (k + 1)) (.int .i64 ((k : Int) + 1)) wr) := ⟨k + 1, by omega, Nat.le_refl _, by simp, HO, rfl⟩
        have hcs : dig s[k] = true ∨ (dig s[k] = false ∧ (s[k].toNat : Int) = 59) := by
          cases h : dig s[k] with
          | true => exact .inl rfl
          | false => exact .inr ⟨rfl, h59.2 ((okB_cases hok).elim id (fun h2 => by rw [h] at h2; cases h2))⟩
        clear HC hd HO hok h59 hbt HSP HRD HRT
        generalize dig s[k] = D at *
        have hb1 : (s[k].toNat : Int) < 256 := by omega
        have hb0 : (0 : Int) ≤ (s[k].toNat : Int) := by omega
        clear hb
        generalize (s[k].toNat : Int) = y at *
        rcases hcs with rfl | ⟨rfl, rfl⟩
        all_goals
          go_wp2_with fail
          refine H1.out.mono ?_
          rintro e w2 ⟨rfl, rfl⟩
          go_wp2
          go_roundg (s.length - (k + 1))
          case measure => have := HG.out; omega
          case rel => exact HN.out
      | false =>
        rw [hok, Bool.false_and] at HO
        have e : R = ([], 4) := HRD.out HO.out
        have hnd : dig s[k] = false := by
          cases h : dig s[k] with
          | false => rfl
          | true => rw [okB_dig h] at hok; cases hok
        have hn : ¬ (s[k].toNat : Int) = 59 := fun h => by rw [h59.1 h] at hok; revert hok; decide
        have hn2 : ((s[k].toNat : Int) != 59) = true := bne_iff_ne.2 hn
        rw [hnd] at H1
        subst e
        clear HC hd HO hok h59 hbt HSP HRD HRT hnd
        have hb1 : (s[k].toNat : Int) < 256 := by omega
        have hb0 : (0 : Int) ≤ (s[k].toNat : Int) := by omega
        clear hb
        generalize (s[k].toNat : Int) = y at *
        go_wp2_with fail
        refine H1.out.mono ?_
        rintro e w2 ⟨rfl, rfl⟩
        go_wp2
        go_ret2
        exact ⟨_, rfl, OwnI.nil _ _, HB1.out⟩
    · obtain rfl : k = s.length := by omega
      obtain ⟨wo, hwo⟩ : ∃ wo, wo = wr := ⟨_, rfl⟩
      subst hwo
      rw [List.drop_length] at HO
      obtain ⟨e, hdg⟩ := HRT.out HO.out
      have HDG := Hid.mk' hdg
      subst e
      have HSP1 := Hid.mk' (HSP.out wo HM.out)
      clear HC HSP HRD HRT HO HM hdg
      go_wp2_with fail
      refine HSP1.out.mono ?_
      rintro e w2 ⟨n, hn, rfl, HX, b2⟩
      have hn2 := hn.out
      subst hn2
      clear hn
      have HBW := Hid.mk' (HB1.out.trans (Below.mono b2 (by omega)))
      have z12 := b2.size
      clear b2
      have HS2 : Hid (GS w2 P P.length (.slice none 0 0) (.int .i64 0) w2) := ⟨0, Nat.zero_le _, by omega, by omega, rfl, by rw [List.take_zero]; exact OwnI.nil _ _, Below.refl _ _⟩
      have HTL : Hid (∀ (p : List UInt8) W, Calls Tryz.prog 75 #[.string (bs p), .string ⟨#[48]⟩] W fun e w' => e = .returned (.string (bs (trimLeftB p 48))) ∧ w' = W) := fun p W => Tryz.strings_TrimLeft_one (bs p) 48 (by decide) W
      have HWK : Hid (∀ v W, OwnI W w2.heap.size v (((P.map nref).take 32)) → Below w2.heap.size w2 W → OwnI W w.heap.size v ((P.map nref).take 32) ∧ Below w.heap.size w W) := fun v W h1 h2 => ⟨h1.weak (by omega), HBW.out.trans (Below.mono h2 (by omega))⟩
      go_wp2_with fail
      go_loopg [6, 32] P.length (fun g s6 s32 wr => GS w2 P g s6 s32 wr)
      case atStart => exact HS2.out
      case round =>
        obtain ⟨k, hkP, hk32, hg2, rfl, HO, HBL⟩ := hrel
        have HG2 := Hid.mk' hg2
        clear hg2 HS2 HBW
        by_cases hlt : k < P.length
        · have c1 : wr.cell? ⟨wo.heap.size, k, none⟩ = some (.string (bs P[k])) := (HBL.out.cell (p := ⟨wo.heap.size, k, none⟩) HX.out.lt).trans (HX.out.cell (by simp [hlt]))
          by_cases h32 : k = 32
          · subst h32
            have e : (P.take 32).map nref = (P.map nref).take 32 := by rw [List.map_take]
            rw [e] at HO
            obtain ⟨h1, h2⟩ := HWK.out _ _ HO.out HBL.out
            have HF1 := Hid.mk' h1
            have HF2 := Hid.mk' h2
            clear h1 h2 HO HBL HWK HTL HDG HX e
            generalize bs P[32] = T at *
            go_wp2
            go_ret2
            exact ⟨_, rfl, HF1.out, HF2.out⟩
          · have hk3 : ((k : Int) == 32) = false := beq_false_of_ne (by omega)
            have hdp := HDG.out _ (List.getElem_mem hlt)
            have HN : Hid (∀ v' w', OwnI w' w2.heap.size v' ((P.take k).map nref ++ [nref P[k]]) → Below w2.heap.size w2 w' → GS w2 P (P.length - (k + 1)) v' (.int .i64 ((k : Int) + 1)) w') := fun v' w' h1 h2 => by
              refine ⟨k + 1, by omega, by omega, Nat.le_refl _, by simp, ?_, h2⟩
              rw [List.take_succ_eq_append_getElem hlt, List.map_append]
              exact h1
            have hXl : ((P.take k).map nref).length ≤ 32 := by rw [List.length_map]; have := List.length_take_le k P; omega
            have HT1 := Hid.mk' (HTL.out P[k] wr)
            clear HWK HTL HDG HX
            generalize (P.take k).map nref = X at *
            generalize P[k] = p at *
            by_cases hp : p = []
            · have e : nref p = -1 := by rw [hp]; rfl
              rw [e] at HN
              subst hp
              have hb0 : bs [] = ⟨#[]⟩ := rfl
              rw [hb0] at c1 HT1
              have ht0 : bs (trimLeftB [] 48) = ⟨#[]⟩ := rfl
              rw [ht0] at HT1
              clear e hb0 ht0 hdp
              go_wp2_with fail
              refine HT1.out.mono ?_
              rintro e w3 ⟨rfl, rfl⟩
              have HW : Hid (#[.int .i64 (-1)] = (icells [(-1)]).toArray) := Hid.mk' rfl
              have zw := HBL.out.size
              go_wp2_with (at_builtin; refine wpList_append_i _ (by rfl) _ _ rfl w2.heap.size u6 X [(-1)] rfl HO.out _ HW.out _ _ rfl rfl (by simp) zw ?c1 ?_)
              case c1 => simp; omega
              intro v' w' ho' hbl
              have HN2 := Hid.mk' (HN.out v' w' ho' (hbl _ _ (Nat.le_refl _) HBL.out))
              clear ho' hbl HN
              go_wp2
              go_roundg (P.length - (k + 1))
              case measure => have := HG2.out; omega
              case rel => exact HN2.out
            · have hem1 : (bs p).toList.isEmpty = false := by
                rw [ByteArray.toList_eq]
                cases p with
                | nil => exact absurd rfl hp
                | cons a r => rfl
              have hem2 : ((bs p).toList == []) = false := by
                rw [ByteArray.toList_eq]
                cases p with
                | nil => exact absurd rfl hp
                | cons a r => rfl
              obtain ⟨_, _, hdd⟩ := trim_form p hdp
              have hz := bs_size (trimLeftB p 48)
              have enr : nref p = if 5 < (trimLeftB p 48).length then 16383 else min (val 0 (trimLeftB p 48)) 16383 := if_neg hp
              clear hdp hp
              generalize trimLeftB p 48 = ds at *
              generalize nref p = x at *
              by_cases h5 : 5 < ds.length
              · rw [if_pos h5] at enr
                subst enr
                have h51 : (5 : Int) < (ds.length : Int) := by omega
                clear hdd
                generalize bs ds = D at *
                generalize bs p = T at *
                go_wp2_with fail
                refine HT1.out.mono ?_
                rintro e w3 ⟨rfl, rfl⟩
                have HW : Hid (#[.int .i64 16383] = (icells [16383]).toArray) := Hid.mk' rfl
                have zw := HBL.out.size
                go_wp2_with (at_builtin; refine wpList_append_i _ (by rfl) _ _ rfl w2.heap.size u6 X [16383] rfl HO.out _ HW.out _ _ rfl rfl (by simp) zw ?c1 ?_)
                case c1 => simp; omega
                intro v' w' ho' hbl
                have HN2 := Hid.mk' (HN.out v' w' ho' (hbl _ _ (Nat.le_refl _) HBL.out))
                clear ho' hbl HN
                go_wp2
                go_roundg (P.length - (k + 1))
                case measure => have := HG2.out; omega
                case rel => exact HN2.out
              · rw [if_neg h5] at enr
                have h51 : ¬ (5 : Int) < (ds.length : Int) := by omega
                obtain ⟨wq, hwq⟩ : ∃ wq, wq = wr := ⟨_, rfl⟩
                have hcv2 := Lib.run_convert_string_bytes (P := Tryz.prog) wr 9 50 5 (bs ds) Tryz.underlying9 Tryz.underlying50 Tryz.underlying5
                rw [hz] at hcv2
                have hge2 := grownCap_ge wr ds.length 0 5
                have hbb := below_bytes wr 5 (bs ds)
                have HO2 := Hid.mk' (HO.out.below hbb)
                have HBL2 := Hid.mk' (HBL.out.trans (Below.mono hbb HBL.out.size))
                have HC2 := Hid.mk' (fun k h => bytes_cell wr 5 ds k h)
                have HV : Hid (∀ j, j ≤ ds.length → 0 ≤ val 0 (ds.take j) ∧ val 0 (ds.take j) ≤ 99999) := fun j hj => val_five _ (by rw [List.length_take]; omega) (fun b hb => hdd b (List.mem_of_mem_take hb))
                have HVS : Hid (∀ j (h : j < ds.length), val 0 (ds.take (j + 1)) = 10 * val 0 (ds.take j) + (ds[j].toNat : Int) - 48) := fun j h => by
                  rw [List.take_succ_eq_append_getElem h]
                  unfold val
                  rw [List.foldl_append]
                  rfl
                have HDD : Hid (∀ j (h : j < ds.length), (48 : Int) ≤ (ds[j].toNat : Int) ∧ (ds[j].toNat : Int) ≤ 57) := fun j h => by
                  have := dig_iff.1 (hdd _ (List.getElem_mem h))
                  omega
                subst hwq
                clear hdd hbb HO HBL
                generalize bytesWorld wq 5 (bs ds) = w5 at *
                generalize grownCap wq ds.length 0 5 = C2 at *
                generalize bs ds = D at *
                generalize bs p = T at *
                go_wp2_with fail
                refine HT1.out.mono ?_
                rintro e w3 ⟨rfl, rfl⟩
                go_wp2_with fail
                go_loopg [10, 44] ds.length (fun g s10 s44 wz => ∃ j : Nat, j ≤ ds.length ∧ ds.length - j ≤ g ∧ s44 = .int .i64 (j : Int) ∧ s10 = .int .i64 (val 0 (ds.take j)) ∧ wz = w5)
                case atStart => exact ⟨0, Nat.zero_le _, by omega, rfl, by rw [List.take_zero]; rfl, rfl⟩
                case round =>
                  obtain ⟨j, hj, hgj, rfl, rfl, rfl⟩ := hrel
                  have HGJ := Hid.mk' hgj
                  clear hgj hcv2
                  by_cases hjl : j < ds.length
                  · have c2 := HC2.out j hjl
                    obtain ⟨d1, d2⟩ := HDD.out j hjl
                    obtain ⟨v1, v2⟩ := HV.out j hj
                    have HV2 := Hid.mk' (HVS.out j hjl)
                    clear HC2 HDD HV HVS HN
                    generalize val 0 (ds.take j) = V at *
                    generalize (ds[j].toNat : Int) = y at *
                    go_wp2
                    go_roundg (ds.length - (j + 1))
                    case measure => have := HGJ.out; omega
                    case rel => exact ⟨j + 1, by omega, Nat.le_refl _, by go_num, by rw [HV2.out], rfl⟩
                  · obtain rfl : j = ds.length := by omega
                    rw [List.take_length]
                    obtain ⟨v1, v2⟩ := HV.out ds.length (Nat.le_refl _)
                    rw [List.take_length] at v1 v2
                    clear HC2 HDD HV HVS
                    generalize val 0 ds = V at *
                    subst enr
                    have HW : Hid (#[.int .i64 (min V 16383)] = (icells [(min V 16383)]).toArray) := Hid.mk' rfl
                    have zw := HBL2.out.size
                    go_wp2_with (at_builtin; refine wpList_append_i _ (by rfl) _ _ rfl w2.heap.size u6 X [(min V 16383)] rfl HO2.out _ HW.out _ _ rfl rfl (by simp) zw ?c1 ?_)
                    case c1 => simp; omega
                    intro v' w' ho' hbl
                    have HN2 := Hid.mk' (HN.out v' w' ho' (hbl _ _ (Nat.le_refl _) HBL2.out))
                    clear ho' hbl HN
                    go_wp2
                    go_roundg (P.length - (k + 1))
                    case measure => have := HG2.out; omega
                    case rel => exact HN2.out
        · obtain rfl : k = P.length := by omega
          have e : (P.take P.length).map nref = (P.map nref).take 32 := by rw [List.take_length, List.take_of_length_le (by rw [List.length_map]; exact hk32)]
          rw [e] at HO
          obtain ⟨h1, h2⟩ := HWK.out _ _ HO.out HBL.out
          have HF1 := Hid.mk' h1
          have HF2 := Hid.mk' h2
          clear h1 h2 HO HBL HWK HTL HDG HX e
          go_wp2
          go_ret2
          exact ⟨_, rfl, HF1.out, HF2.out⟩
end Go.Proofs.YtneiiinheimglaaGreatDoor.Z
