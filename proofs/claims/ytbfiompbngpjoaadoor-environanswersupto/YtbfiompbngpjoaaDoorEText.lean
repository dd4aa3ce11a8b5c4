/-
  Contract of farref.VarsText; conditions: at most 2^44 variables, and the variable internal/bytealg.MaxLen holds some int.
-/
import Derived.Test.YtbfiompbngpjoaaDoorEEsc
import Derived.Test.YtbfiompbngpjoaaDoorEWrite
import Derived.Deep.RegionHeld3
namespace Go.Proofs.YtbfiompbngpjoaaDoor.E
open Go.RowKit Go.Lib Go.Proofs.YtbfiompbngpjoaaDoor Go.Proofs.YtbfiompbngpjoaaDoor.W Go.Proofs.YtbfiompbngpjoaaDoor.Q Go.Proofs.YtbfiompbngpjoaaDoor.C

theorem any_snoc {l : List Vr} {p : Vr → Bool} {k : Nat} (h : k < l.length) : (l.take (k + 1)).any p = ((l.take k).any p || p l[k]) := by
  rw [take_snocV h, List.any_append]
  simp
def large (l : List Vr) (k : Nat) : Bool := decide (20 < l.length) || (l.take k).any long
theorem large_snoc {l : List Vr} {k : Nat} (h : k < l.length) : large l (k + 1) = (large l k || long l[k]) := by
  unfold large
  rw [any_snoc h, Bool.or_assoc]
def LState (w : World) (l : List Vr) (g : Nat) (s5 s6 s17 : Value) (wr : World) : Prop :=
  ∃ (k : Nat) (Lg Fm : Bool), k ≤ l.length ∧ l.length - k ≤ g ∧ s17 = .int .i64 (k : Int) ∧ s5 = .bool Lg ∧ s6 = .bool Fm ∧ Hid (Lg = large l k) ∧ Hid (Fm = (l.take k).any bad) ∧ Hid (Below w.heap.size w wr)
def OState (w : World) (l : List Vr) (g : Nat) (s4 s50 : Value) (wr : World) : Prop :=
  ∃ (k : Nat) (S : ByteArray), k ≤ l.length ∧ l.length - k ≤ g ∧ s50 = .int .i64 (k : Int) ∧ s4 = .string S ∧ S.size ≤ 20000 ∧ Hid (S = bs (txt (l.take k))) ∧ Hid (Below w.heap.size w wr)
theorem chk_of {l : List Vr} (h1 : large l l.length = false) (h2 : l.any bad = false) : chk l = 0 := by
  unfold large at h1
  rw [Bool.or_eq_false_iff, List.take_length] at h1
  have hn := of_decide_eq_false h1.1
  rw [chk, if_neg hn, h1.2, h2]
  rfl
theorem chk_of2 {l : List Vr} (h1 : large l l.length = true) : chk l = 2 := by
  unfold large at h1
  rw [Bool.or_eq_true, List.take_length] at h1
  rw [chk]
  split
  · rfl
  · rename_i hn
    rcases h1 with h | h
    · exact absurd (of_decide_eq_true h) hn
    · rw [if_pos h]
theorem chk_of4 {l : List Vr} (h1 : large l l.length = false) (h2 : l.any bad = true) : chk l = 4 := by
  unfold large at h1
  rw [Bool.or_eq_false_iff, List.take_length] at h1
  have hn := of_decide_eq_false h1.1
  rw [chk, if_neg hn, h1.2, h2]
  rfl
theorem chainR {A W W' : World} (h : Below A.heap.size A W) (hb : Below W.heap.size W W') : Below A.heap.size A W' := h.trans (hb.mono h.size)
theorem Bytes_plain (b : UInt8) (W : World) : Calls Tryd.prog 16 #[.slice (some ⟨W.heap.size, 0, none⟩) 1 1] (W.alloc (.cells #[.int .i64 (b.toNat : Int)] 3)) fun e w' => e = .returned (.string ⟨#[b]⟩) ∧ Below W.heap.size W w' := Bytes_ints [b] W (by simp)
theorem txt_snoc {l : List Vr} {k : Nat} (h : k < l.length) : txt (l.take (k + 1)) = txt (l.take k) ++ (markOf l[k].user :: (esc l[k].name ++ valText l[k])) := by
  rw [take_snocV h, txt_app, txt, txt, List.append_nil]
  rfl

set_option maxHeartbeats 32000000 in
set_option maxRecDepth 100000 in
theorem VarsText_any (w : World) (v : Value) (l : List Vr) (m : Int) (hv : RdV w v l) (hn : l.length ≤ 17592186044416) (hm : w.cell? ⟨0, 0, none⟩ = some (.int .i64 m)) :
    Calls Tryd.prog 6 #[v] w fun e w' => e = .returned (.tuple #[.string (bs (writeT l).1), .int .i64 (writeT l).2]) ∧ Below w.heap.size w w' := by
  have h00 : 0 < w.heap.size := World.block_lt_of_cell? _ _ hm
  have HE : Hid (∀ W (x : List UInt8), Below w.heap.size w W → x.length ≤ 200 → Calls Tryd.prog 17 #[.string (bs x)] W fun e w' => e = .returned (.string (bs (esc x))) ∧ Below W.heap.size W w') := fun W x hW hx => escapedVar_any x m W (by omega) ((hW.cell (p := ⟨0, 0, none⟩) h00).trans hm)
  have HLG : Hid (large l l.length = true → writeT l = ([], 2)) := fun h => by rw [writeT_no (by rw [chk_of2 h]; decide), chk_of2 h]
  have HFM : Hid (large l l.length = false → l.any bad = true → writeT l = ([], 4)) := fun h h2 => by rw [writeT_no (by rw [chk_of4 h h2]; decide), chk_of4 h h2]
  have HOK : Hid (large l l.length = false → l.any bad = false → writeT l = (txt l, 0) ∧ l.length ≤ 20 ∧ ∀ x ∈ l, long x = false) := fun h h2 => ⟨writeT_ok (chk_of h h2), (chk_zero (chk_of h h2)).1, (chk_zero (chk_of h h2)).2.1⟩
  have HL0 : Hid (decide ((20 : Int) < (l.length : Int)) = large l 0) := by unfold large; rw [List.take_zero]; simp only [List.any_nil, Bool.or_false]; exact Hid.mk' (decide_eq_decide.2 (by omega))
  obtain ⟨a, c, rfl, hc, hr⟩ := hv
  clear hm
  generalize hR : writeT l = R at *
  obtain ⟨R1, R2⟩ := R
  clear hR
  simp only at HLG HFM HOK ⊢
  obtain ⟨T1, hT1⟩ : ∃ T1, bs R1 = T1 := ⟨_, rfl⟩
  rw [hT1]
  have HT1 := Hid.mk' hT1
  clear hT1
  obtain ⟨D0, hD0⟩ : ∃ D0, decide ((20 : Int) < (l.length : Int)) = D0 := ⟨_, rfl⟩
  have HST : Hid (LState w l l.length (.bool D0) (.bool false) (.int .i64 0) w) := ⟨0, D0, false, Nat.zero_le _, by omega, rfl, rfl, rfl, by rw [← hD0]; exact HL0, by rw [List.take_zero]; exact Hid.mk' rfl, Below.refl _ _⟩
  clear HL0
  go_enter Tryd.func6, Tryd.ntmps6
  go_wp2_with fail
  go_loopg [5, 6, 17] l.length (fun g s5 s6 s17 wr => LState w l g s5 s6 s17 wr)
  case atStart => exact HST.out
  case round =>
    clear HST hD0
    obtain ⟨k, Lg, Fm, hk, hg, rfl, rfl, rfl, HA, HF, HB⟩ := hrel
    by_cases hlt : k < l.length
    · rcases hr with h0 | ⟨b, o, rfl, t, hb⟩
      · subst h0; simp at hlt
      obtain ⟨t0, t1, t2, t3⟩ := (t k hlt).below HB.out hb
      have HB2 := fun cs => Hid.mk' (HB.out.alloc HB.out.size (.cells cs 30))
      have hz0 := bs_size l[k].name
      have hz1 := bs_size l[k].value
      have hie := bs_isEmpty l[k].value
      have HAs := Hid.mk' (large_snoc hlt)
      have HFs := Hid.mk' (any_snoc (p := bad) hlt)
      rw [← HA.out] at HAs
      rw [← HF.out] at HFs
      have hlong : long l[k] = (decide (200 < l[k].name.length) || decide (200 < l[k].value.length)) := rfl
      have hbad : bad l[k] = (!l[k].set && !l[k].value.isEmpty) := rfl
      have hz0' : decide (200 < l[k].name.length) = decide ((200 : Int) < ((bs l[k].name).size : Int)) := decide_eq_decide.2 (by omega)
      have hz1' : decide (200 < l[k].value.length) = decide ((200 : Int) < ((bs l[k].value).size : Int)) := decide_eq_decide.2 (by omega)
      rw [hz0', hz1'] at hlong
      rw [← hie] at hbad
      rw [hlong] at HAs
      rw [hbad] at HFs
      clear HE HLG HFM HOK HA HF t hz0 hz1 hie hlong hbad hz0' hz1' HT1
      generalize bs l[k].name = x0 at *
      generalize bs l[k].value = x1 at *
      generalize l[k].user = x2 at *
      generalize l[k].set = x3 at *
      have fin : Hid (∀ W L F, Below w.heap.size w W → L = large l (k + 1) → F = (l.take (k + 1)).any bad → LState w l (l.length - (k + 1)) (.bool L) (.bool F) (.int .i64 ((k + 1 : Nat) : Int)) W) := fun W L F h1 h2 h3 => ⟨k + 1, L, F, by omega, Nat.le_refl _, rfl, rfl, rfl, h2, h3, h1⟩
      have hL : (Lg = true ∧ large l (k + 1) = true) ∨ (Lg = false ∧ (200 : Int) < (x0.size : Int) ∧ large l (k + 1) = true) ∨ (Lg = false ∧ ¬ (200 : Int) < (x0.size : Int) ∧ (200 : Int) < (x1.size : Int) ∧ large l (k + 1) = true) ∨ (Lg = false ∧ ¬ (200 : Int) < (x0.size : Int) ∧ ¬ (200 : Int) < (x1.size : Int) ∧ large l (k + 1) = false) := by
        have h := HAs.out
        rw [h]
        cases Lg with
        | true => exact .inl ⟨rfl, rfl⟩
        | false =>
          by_cases q1 : (200 : Int) < (x0.size : Int)
          · exact .inr (.inl ⟨rfl, q1, by rw [decide_eq_true q1]; rfl⟩)
          · by_cases q2 : (200 : Int) < (x1.size : Int)
            · exact .inr (.inr (.inl ⟨rfl, q1, q2, by rw [decide_eq_true q2, Bool.or_true]; rfl⟩))
            · exact .inr (.inr (.inr ⟨rfl, q1, q2, by rw [decide_eq_false q1, decide_eq_false q2]; rfl⟩))
      have hF : (Fm = true ∧ (l.take (k + 1)).any bad = true) ∨ (Fm = false ∧ x3 = true ∧ (l.take (k + 1)).any bad = false) ∨ (Fm = false ∧ x3 = false ∧ x1.toList.isEmpty = true ∧ (l.take (k + 1)).any bad = false) ∨ (Fm = false ∧ x3 = false ∧ x1.toList.isEmpty = false ∧ (l.take (k + 1)).any bad = true) := by
        have h := HFs.out
        rw [h]
        cases Fm with
        | true => exact .inl ⟨rfl, rfl⟩
        | false =>
          cases x3 with
          | true => exact .inr (.inl ⟨rfl, rfl, rfl⟩)
          | false =>
            cases hie : x1.toList.isEmpty with
            | true => exact .inr (.inr (.inl ⟨rfl, rfl, rfl, rfl⟩))
            | false => exact .inr (.inr (.inr ⟨rfl, rfl, rfl, rfl⟩))
      clear HAs HFs
      rcases hL with ⟨rfl, eL⟩ | ⟨rfl, q1, eL⟩ | ⟨rfl, q1, q2, eL⟩ | ⟨rfl, q1, q2, eL⟩ <;> rcases hF with ⟨rfl, eF⟩ | ⟨rfl, rfl, eF⟩ | ⟨rfl, rfl, hie, eF⟩ | ⟨rfl, rfl, hie, eF⟩
      all_goals (
        have F1 := Hid.mk' (fun W hW => fin.out W _ _ hW eL.symm eF.symm)
        clear fin eL eF
        go_wp2
        go_roundg (l.length - (k + 1))
        case measure => omega
        case rel => first | exact F1.out _ (HB2 _).out | (have h := F1.out _ (HB2 #[.string x0, .string x1, .bool x2, .bool x3]).out; simpa using h) | (have h := F1.out _ (HB2 #[.string x0, .string x1, .bool x2, .bool false]).out; simpa using h) | (have h := F1.out _ (HB2 #[.string x0, .string x1, .bool x2, .bool true]).out; simpa using h))
    · obtain rfl : k = l.length := by omega
      have hAo := HA.out
      have hFo := HF.out
      rw [List.take_length] at hFo
      cases Lg with
      | true =>
        have er := HLG.out hAo.symm
        simp only [Prod.mk.injEq] at er
        obtain ⟨rfl, rfl⟩ := er
        have eT : T1 = ⟨#[]⟩ := HT1.out.symm
        subst eT
        clear HE HLG HFM HOK HA HF hAo hFo HT1
        go_wp2
        go_ret2
        exact ⟨rfl, HB.out⟩
      | false =>
        cases Fm with
        | true =>
          have er := HFM.out hAo.symm hFo.symm
          simp only [Prod.mk.injEq] at er
          obtain ⟨rfl, rfl⟩ := er
          have eT : T1 = ⟨#[]⟩ := HT1.out.symm
          subst eT
          clear HE HLG HFM HOK HA HF hAo hFo HT1
          go_wp2
          go_ret2
          exact ⟨rfl, HB.out⟩
        | false =>
          obtain ⟨er, hl20, hlg⟩ := HOK.out hAo.symm hFo.symm
          simp only [Prod.mk.injEq] at er
          obtain ⟨rfl, rfl⟩ := er
          have HLGS := Hid.mk' hlg
          have HBY : Hid (∀ (b : UInt8) (W : World), Calls Tryd.prog 16 #[.slice (some ⟨W.heap.size, 0, none⟩) 1 1] (W.alloc (.cells #[.int .i64 (b.toNat : Int)] 3)).drew fun e w' => e = .returned (.string ⟨#[b]⟩) ∧ Below W.heap.size W w') := fun b W => Bytes_drew b W
          have HBP : Hid (∀ (b : UInt8) (W : World), Calls Tryd.prog 16 #[.slice (some ⟨W.heap.size, 0, none⟩) 1 1] (W.alloc (.cells #[.int .i64 (b.toNat : Int)] 3)) fun e w' => e = .returned (.string ⟨#[b]⟩) ∧ Below W.heap.size W w') := fun b W => Bytes_plain b W
          have HS2 : Hid (OState w l l.length (.string ⟨#[]⟩) (.int .i64 0) wr) := ⟨0, ⟨#[]⟩, Nat.zero_le _, by omega, rfl, rfl, by decide, by rw [List.take_zero]; exact Hid.mk' rfl, HB⟩
          clear HLG HFM HOK HA HF hAo hFo hlg HB
          go_wp2_with fail
          go_loopg [4, 50] l.length (fun g s4 s50 wr => OState w l g s4 s50 wr)
          case atStart => exact HS2.out
          case round =>
            clear HS2
            obtain ⟨k, S, hk, hg, rfl, rfl, hSz, HS, HB⟩ := hrel
            by_cases hlt : k < l.length
            · rcases hr with h0 | ⟨b, o, rfl, t, hb⟩
              · subst h0; simp at hlt
              obtain ⟨t0, t1, t2, t3⟩ := (t k hlt).below HB.out hb
              have HB2 := fun cs => Hid.mk' (HB.out.alloc HB.out.size (.cells cs 30))
              obtain ⟨g1, g2⟩ := long_no (HLGS.out l[k] (List.getElem_mem hlt))
              have HEN := Hid.mk' (fun W hW => HE.out W l[k].name hW g1)
              have HEV := Hid.mk' (fun W hW => HE.out W l[k].value hW g2)
              have hzn : (bs (esc l[k].name)).size ≤ 400 := by rw [bs_size]; have := esc_len l[k].name; omega
              have hzv : (bs (esc l[k].value)).size ≤ 400 := by rw [bs_size]; have := esc_len l[k].value; omega
              have hSS := txt_take HLGS.out k
              have hSb : S.size ≤ 16040 := by rw [HS.out, bs_size]; omega
              have HX0 := fun cs => Hid.mk' (Box.new wr 30 cs)
              have HTX := Hid.mk' (txt_snoc hlt)
              have HTZ := Hid.mk' (txt_take HLGS.out (k + 1))
              clear HE HLGS t hSS HT1
              cases hu : l[k].user with
              | true =>
                cases hs : l[k].set with
                | true =>
                  have hcat1 : S ++ ((⟨#[3]⟩ : ByteArray) ++ bs (esc l[k].name)) = bs (txt (l.take k) ++ (3 :: esc l[k].name)) := by rw [HS.out, show (⟨#[3]⟩ : ByteArray) = bs [3] from rfl, bs_app, bs_app]; rfl
                  have hz1 : (bs (txt (l.take k) ++ (3 :: esc l[k].name))).size ≤ 17000 := by rw [← hcat1, ByteArray.size_append, ByteArray.size_append]; have : (⟨#[3]⟩ : ByteArray).size = 1 := rfl; omega
                  have hcat2 : bs (txt (l.take k) ++ (3 :: esc l[k].name)) ++ ((⟨#[1]⟩ : ByteArray) ++ bs (esc l[k].value)) = bs (txt (l.take (k + 1))) := by rw [HTX.out, hu, show (⟨#[1]⟩ : ByteArray) = bs [1] from rfl, bs_app, bs_app]; congr 1; simp [markOf, valText, hs]
                  have HZ2 : Hid ((bs (txt (l.take (k + 1)))).size ≤ 20000) := by rw [bs_size]; have := HTZ.out; exact Hid.mk' (by omega)
                  obtain ⟨S3, hS3⟩ : ∃ S3, bs (txt (l.take (k + 1))) = S3 := ⟨_, rfl⟩
                  have HS2 : Hid (S3 = bs (txt (l.take (k + 1)))) := hS3.symm
                  rw [hS3] at hcat2 HZ2
                  clear hS3
                  rw [hu] at t2
                  rw [hs] at t3
                  have HXa := Hid.mk' (HX0 [.string (bs l[k].name), .string (bs l[k].value), .bool true, .bool true])
                  have HW1 := Hid.mk' (HB2 #[.string (bs l[k].name), .string (bs l[k].value), .bool true, .bool true]).out
                  have HX1 : Hid (Box (wr.alloc (.cells #[.string (bs l[k].name), .string (bs l[k].value), .bool true, .bool true] 30)) wr.heap.size 30 [.string (bs l[k].name), .string (bs l[k].value), .bool true, .bool true]) := HXa.out.out
                  have hk3 : ∀ w', Below (wr.alloc (.cells #[.string (bs l[k].name), .string (bs l[k].value), .bool true, .bool true] 30)).heap.size (wr.alloc (.cells #[.string (bs l[k].name), .string (bs l[k].value), .bool true, .bool true] 30)) w' → w'.cell? ⟨wr.heap.size, 3, none⟩ = some (.bool true) := fun w' h => (HX1.out.later h).cell rfl
                  have HK3 := Hid.mk' hk3
                  clear HXa HX0 HB2 hk3 hu hs HTX HTZ HS HB
                  generalize bs (txt (l.take k) ++ (3 :: esc l[k].name)) = S2 at *
                  generalize bs (esc l[k].name) = EN at *
                  generalize bs (esc l[k].value) = EV at *
                  generalize bs l[k].name = N at *
                  generalize bs l[k].value = V at *
                  go_wp2_with fail
                  generalize wr.alloc (.cells #[.string N, .string V, .bool true, .bool true] 30) = w5 at *
                  have HK1 : Hid (∀ W, Below w5.heap.size w5 W → Below w.heap.size w W) := fun W h => HW1.out.trans (h.mono HW1.out.size)
                  have HEn1 : Hid (∀ W, Below w5.heap.size w5 W → Calls Tryd.prog 17 #[.string N] W fun e w' => e = .returned (.string EN) ∧ Below w5.heap.size w5 w') := fun W h => by
                    refine (HEN.out W (HK1.out W h)).mono ?_
                    rintro e w' ⟨q1, q2⟩
                    exact ⟨q1, chainR h q2⟩
                  have hc1 : ∀ w', Below w5.heap.size w5 w' → w'.cell? ⟨wr.heap.size, 0, none⟩ = some (.string N) := fun w' h => (HX1.out.later h).cell rfl
                  have H01 : Hid (Below w5.heap.size w5 w5.drew) := (Below.refl _ _).drew
                  have HA1 : Hid (Below w5.heap.size w5 (w5.alloc (.cells #[.int .i64 3] 3)).drew) := ((Below.refl _ _).alloc (Nat.le_refl _) _).drew
                  have HBa1 : Hid (Calls Tryd.prog 16 #[.slice (some ⟨w5.heap.size, 0, none⟩) 1 1] (w5.alloc (.cells #[.int .i64 3] 3)).drew fun e w' => e = .returned (.string ⟨#[3]⟩) ∧ Below w5.heap.size w5 w') := HBY.out 3 w5
                  have HBb1 : Hid (∀ W, Below w5.heap.size w5 W → Calls Tryd.prog 16 #[.slice (some ⟨W.heap.size, 0, none⟩) 1 1] (W.alloc (.cells #[.int .i64 3] 3)) fun e w' => e = .returned (.string ⟨#[3]⟩) ∧ Below w5.heap.size w5 w') := fun W h => by
                    refine (HBP.out 3 W).mono ?_
                    rintro e w' ⟨q1, q2⟩
                    exact ⟨q1, chainR h q2⟩
                  have hone1 : (⟨#[3]⟩ : ByteArray).size = 1 := rfl
                  have hsum1 : ¬ (9223372036854775807 < (⟨#[3]⟩ : ByteArray).size + EN.size) := by omega
                  obtain ⟨BE1, hBE1⟩ : ∃ X, (⟨#[3]⟩ : ByteArray) ++ EN = X := ⟨_, rfl⟩
                  have htot1 : ¬ (9223372036854775807 < S.size + BE1.size) := by rw [← hBE1, ByteArray.size_append]; omega
                  rw [hBE1] at hcat1
                  clear hone1
                  generalize (⟨#[3]⟩ : ByteArray) = B1 at *
                  go_wp2_with fail
                  go_region_held3 (fun w' => Below w5.heap.size w5 w') (first | with_reducible assumption | with_reducible exact H01.out | with_reducible exact HA1.out | exact Below.alloc (by assumption) (Below.size (by assumption)) _) (first | (go_at_call 16; refine HBa1.out.mono ?_; rintro e wx ⟨rfl, hbx⟩) | (go_at_call 16; refine (HBb1.out _ (by assumption)).mono ?_; rintro e wx ⟨rfl, hbx⟩) | (go_at_call 17; refine (HEn1.out _ (by first | assumption | exact H01.out | exact HA1.out)).mono ?_; rintro e wx ⟨rfl, hbx⟩))
                  all_goals (
                    have h8 : Below w5.heap.size w5 wx := by first | assumption | exact hbx
                    have hset := HK3.out wx h8
                    have HW2 := Hid.mk' (HK1.out wx h8)
                    have HX2 := Hid.mk' (HX1.out.later h8)
                    clear HK3 HK1 HEn1 hc1 H01 HA1 HBa1 HBb1 HX1 HW1 hbx
                    have HK2 : Hid (∀ W, Below wx.heap.size wx W → Below w.heap.size w W) := fun W h => HW2.out.trans (h.mono HW2.out.size)
                    have HEn2 : Hid (∀ W, Below wx.heap.size wx W → Calls Tryd.prog 17 #[.string V] W fun e w' => e = .returned (.string EV) ∧ Below wx.heap.size wx w') := fun W h => by
                      refine (HEV.out W (HK2.out W h)).mono ?_
                      rintro e w' ⟨q1, q2⟩
                      exact ⟨q1, chainR h q2⟩
                    have hc2 : ∀ w', Below wx.heap.size wx w' → w'.cell? ⟨wr.heap.size, 1, none⟩ = some (.string V) := fun w' h => (HX2.out.later h).cell rfl
                    have H02 : Hid (Below wx.heap.size wx wx.drew) := (Below.refl _ _).drew
                    have HA2 : Hid (Below wx.heap.size wx (wx.alloc (.cells #[.int .i64 1] 3)).drew) := ((Below.refl _ _).alloc (Nat.le_refl _) _).drew
                    have HBa2 : Hid (Calls Tryd.prog 16 #[.slice (some ⟨wx.heap.size, 0, none⟩) 1 1] (wx.alloc (.cells #[.int .i64 1] 3)).drew fun e w' => e = .returned (.string ⟨#[1]⟩) ∧ Below wx.heap.size wx w') := HBY.out 1 wx
                    have HBb2 : Hid (∀ W, Below wx.heap.size wx W → Calls Tryd.prog 16 #[.slice (some ⟨W.heap.size, 0, none⟩) 1 1] (W.alloc (.cells #[.int .i64 1] 3)) fun e w' => e = .returned (.string ⟨#[1]⟩) ∧ Below wx.heap.size wx w') := fun W h => by
                      refine (HBP.out 1 W).mono ?_
                      rintro e w' ⟨q1, q2⟩
                      exact ⟨q1, chainR h q2⟩
                    have hone2 : (⟨#[1]⟩ : ByteArray).size = 1 := rfl
                    have hsum2 : ¬ (9223372036854775807 < (⟨#[1]⟩ : ByteArray).size + EV.size) := by omega
                    obtain ⟨BE2, hBE2⟩ : ∃ X, (⟨#[1]⟩ : ByteArray) ++ EV = X := ⟨_, rfl⟩
                    have htot2 : ¬ (9223372036854775807 < S2.size + BE2.size) := by rw [← hBE2, ByteArray.size_append]; omega
                    rw [hBE2] at hcat2
                    clear hone2
                    generalize (⟨#[1]⟩ : ByteArray) = B2 at *
                    go_wp2_with fail
                    go_region_held3 (fun w' => Below wx.heap.size wx w') (first | with_reducible assumption | with_reducible exact H02.out | with_reducible exact HA2.out | exact Below.alloc (by assumption) (Below.size (by assumption)) _) (first | (go_at_call 16; refine HBa2.out.mono ?_; rintro e wz ⟨rfl, hbz⟩) | (go_at_call 16; refine (HBb2.out _ (by assumption)).mono ?_; rintro e wz ⟨rfl, hbz⟩) | (go_at_call 17; refine (HEn2.out _ (by first | assumption | exact H02.out | exact HA2.out)).mono ?_; rintro e wz ⟨rfl, hbz⟩))
                    all_goals (
                      have h9 : Below wx.heap.size wx wz := by first | assumption | exact hbz
                      have HW3 := Hid.mk' (HK2.out wz h9)
                      clear HK2 HEn2 hc2 H02 HA2 HBa2 HBb2 HX2 HW2 hbz
                      go_wp2
                      go_roundg (l.length - (k + 1))
                      case measure => omega
                      case rel => exact ⟨k + 1, S3, by omega, by omega, by go_num, rfl, HZ2.out, HS2, HW3⟩))
                | false =>
                  have hcat1 : S ++ ((⟨#[3]⟩ : ByteArray) ++ bs (esc l[k].name)) = bs (txt (l.take k) ++ (3 :: esc l[k].name)) := by rw [HS.out, show (⟨#[3]⟩ : ByteArray) = bs [3] from rfl, bs_app, bs_app]; rfl
                  have hz1 : (bs (txt (l.take k) ++ (3 :: esc l[k].name))).size ≤ 17000 := by rw [← hcat1, ByteArray.size_append, ByteArray.size_append]; have : (⟨#[3]⟩ : ByteArray).size = 1 := rfl; omega
                  have hcat2 : bs (txt (l.take k) ++ (3 :: esc l[k].name)) = bs (txt (l.take (k + 1))) := by rw [HTX.out, hu]; congr 1; simp [markOf, valText, hs]
                  have HZ2 : Hid ((bs (txt (l.take (k + 1)))).size ≤ 20000) := by rw [bs_size]; have := HTZ.out; exact Hid.mk' (by omega)
                  obtain ⟨S3, hS3⟩ : ∃ S3, bs (txt (l.take (k + 1))) = S3 := ⟨_, rfl⟩
                  have HS2 : Hid (S3 = bs (txt (l.take (k + 1)))) := hS3.symm
                  rw [hS3] at hcat2 HZ2
                  clear hS3
                  rw [hu] at t2
                  rw [hs] at t3
                  have HXa := Hid.mk' (HX0 [.string (bs l[k].name), .string (bs l[k].value), .bool true, .bool false])
                  have HW1 := Hid.mk' (HB2 #[.string (bs l[k].name), .string (bs l[k].value), .bool true, .bool false]).out
                  have HX1 : Hid (Box (wr.alloc (.cells #[.string (bs l[k].name), .string (bs l[k].value), .bool true, .bool false] 30)) wr.heap.size 30 [.string (bs l[k].name), .string (bs l[k].value), .bool true, .bool false]) := HXa.out.out
                  have hk3 : ∀ w', Below (wr.alloc (.cells #[.string (bs l[k].name), .string (bs l[k].value), .bool true, .bool false] 30)).heap.size (wr.alloc (.cells #[.string (bs l[k].name), .string (bs l[k].value), .bool true, .bool false] 30)) w' → w'.cell? ⟨wr.heap.size, 3, none⟩ = some (.bool false) := fun w' h => (HX1.out.later h).cell rfl
                  have HK3 := Hid.mk' hk3
                  clear HXa HX0 HB2 hk3 hu hs HTX HTZ HS HB
                  generalize bs (txt (l.take k) ++ (3 :: esc l[k].name)) = S2 at *
                  generalize bs (esc l[k].name) = EN at *
                  generalize bs (esc l[k].value) = EV at *
                  generalize bs l[k].name = N at *
                  generalize bs l[k].value = V at *
                  go_wp2_with fail
                  generalize wr.alloc (.cells #[.string N, .string V, .bool true, .bool false] 30) = w5 at *
                  have HK1 : Hid (∀ W, Below w5.heap.size w5 W → Below w.heap.size w W) := fun W h => HW1.out.trans (h.mono HW1.out.size)
                  have HEn1 : Hid (∀ W, Below w5.heap.size w5 W → Calls Tryd.prog 17 #[.string N] W fun e w' => e = .returned (.string EN) ∧ Below w5.heap.size w5 w') := fun W h => by
                    refine (HEN.out W (HK1.out W h)).mono ?_
                    rintro e w' ⟨q1, q2⟩
                    exact ⟨q1, chainR h q2⟩
                  have hc1 : ∀ w', Below w5.heap.size w5 w' → w'.cell? ⟨wr.heap.size, 0, none⟩ = some (.string N) := fun w' h => (HX1.out.later h).cell rfl
                  have H01 : Hid (Below w5.heap.size w5 w5.drew) := (Below.refl _ _).drew
                  have HA1 : Hid (Below w5.heap.size w5 (w5.alloc (.cells #[.int .i64 3] 3)).drew) := ((Below.refl _ _).alloc (Nat.le_refl _) _).drew
                  have HBa1 : Hid (Calls Tryd.prog 16 #[.slice (some ⟨w5.heap.size, 0, none⟩) 1 1] (w5.alloc (.cells #[.int .i64 3] 3)).drew fun e w' => e = .returned (.string ⟨#[3]⟩) ∧ Below w5.heap.size w5 w') := HBY.out 3 w5
                  have HBb1 : Hid (∀ W, Below w5.heap.size w5 W → Calls Tryd.prog 16 #[.slice (some ⟨W.heap.size, 0, none⟩) 1 1] (W.alloc (.cells #[.int .i64 3] 3)) fun e w' => e = .returned (.string ⟨#[3]⟩) ∧ Below w5.heap.size w5 w') := fun W h => by
                    refine (HBP.out 3 W).mono ?_
                    rintro e w' ⟨q1, q2⟩
                    exact ⟨q1, chainR h q2⟩
                  have hone1 : (⟨#[3]⟩ : ByteArray).size = 1 := rfl
                  have hsum1 : ¬ (9223372036854775807 < (⟨#[3]⟩ : ByteArray).size + EN.size) := by omega
                  obtain ⟨BE1, hBE1⟩ : ∃ X, (⟨#[3]⟩ : ByteArray) ++ EN = X := ⟨_, rfl⟩
                  have htot1 : ¬ (9223372036854775807 < S.size + BE1.size) := by rw [← hBE1, ByteArray.size_append]; omega
                  rw [hBE1] at hcat1
                  clear hone1
                  generalize (⟨#[3]⟩ : ByteArray) = B1 at *
                  go_wp2_with fail
                  go_region_held3 (fun w' => Below w5.heap.size w5 w') (first | with_reducible assumption | with_reducible exact H01.out | with_reducible exact HA1.out | exact Below.alloc (by assumption) (Below.size (by assumption)) _) (first | (go_at_call 16; refine HBa1.out.mono ?_; rintro e wx ⟨rfl, hbx⟩) | (go_at_call 16; refine (HBb1.out _ (by assumption)).mono ?_; rintro e wx ⟨rfl, hbx⟩) | (go_at_call 17; refine (HEn1.out _ (by first | assumption | exact H01.out | exact HA1.out)).mono ?_; rintro e wx ⟨rfl, hbx⟩))
                  all_goals (
                    have h8 : Below w5.heap.size w5 wx := by first | assumption | exact hbx
                    have hset := HK3.out wx h8
                    have HW2 := Hid.mk' (HK1.out wx h8)
                    have HX2 := Hid.mk' (HX1.out.later h8)
                    clear HK3 HK1 HEn1 hc1 H01 HA1 HBa1 HBb1 HX1 HW1 hbx
                    subst hcat2
                    go_wp2
                    go_roundg (l.length - (k + 1))
                    case measure => omega
                    case rel => exact ⟨k + 1, _, by omega, by omega, by go_num, rfl, HZ2.out, HS2, HW2⟩)
              | false =>
                cases hs : l[k].set with
                | true =>
                  have hcat1 : S ++ ((⟨#[0]⟩ : ByteArray) ++ bs (esc l[k].name)) = bs (txt (l.take k) ++ (0 :: esc l[k].name)) := by rw [HS.out, show (⟨#[0]⟩ : ByteArray) = bs [0] from rfl, bs_app, bs_app]; rfl
                  have hz1 : (bs (txt (l.take k) ++ (0 :: esc l[k].name))).size ≤ 17000 := by rw [← hcat1, ByteArray.size_append, ByteArray.size_append]; have : (⟨#[0]⟩ : ByteArray).size = 1 := rfl; omega
                  have hcat2 : bs (txt (l.take k) ++ (0 :: esc l[k].name)) ++ ((⟨#[1]⟩ : ByteArray) ++ bs (esc l[k].value)) = bs (txt (l.take (k + 1))) := by rw [HTX.out, hu, show (⟨#[1]⟩ : ByteArray) = bs [1] from rfl, bs_app, bs_app]; congr 1; simp [markOf, valText, hs]
                  have HZ2 : Hid ((bs (txt (l.take (k + 1)))).size ≤ 20000) := by rw [bs_size]; have := HTZ.out; exact Hid.mk' (by omega)
                  obtain ⟨S3, hS3⟩ : ∃ S3, bs (txt (l.take (k + 1))) = S3 := ⟨_, rfl⟩
                  have HS2 : Hid (S3 = bs (txt (l.take (k + 1)))) := hS3.symm
                  rw [hS3] at hcat2 HZ2
                  clear hS3
                  rw [hu] at t2
                  rw [hs] at t3
                  have HXa := Hid.mk' (HX0 [.string (bs l[k].name), .string (bs l[k].value), .bool false, .bool true])
                  have HW1 := Hid.mk' (HB2 #[.string (bs l[k].name), .string (bs l[k].value), .bool false, .bool true]).out
                  have HX1 : Hid (Box (wr.alloc (.cells #[.string (bs l[k].name), .string (bs l[k].value), .bool false, .bool true] 30)) wr.heap.size 30 [.string (bs l[k].name), .string (bs l[k].value), .bool false, .bool true]) := HXa.out.out
                  have hk3 : ∀ w', Below (wr.alloc (.cells #[.string (bs l[k].name), .string (bs l[k].value), .bool false, .bool true] 30)).heap.size (wr.alloc (.cells #[.string (bs l[k].name), .string (bs l[k].value), .bool false, .bool true] 30)) w' → w'.cell? ⟨wr.heap.size, 3, none⟩ = some (.bool true) := fun w' h => (HX1.out.later h).cell rfl
                  have HK3 := Hid.mk' hk3
                  clear HXa HX0 HB2 hk3 hu hs HTX HTZ HS HB
                  generalize bs (txt (l.take k) ++ (0 :: esc l[k].name)) = S2 at *
                  generalize bs (esc l[k].name) = EN at *
                  generalize bs (esc l[k].value) = EV at *
                  generalize bs l[k].name = N at *
                  generalize bs l[k].value = V at *
                  go_wp2_with fail
                  generalize wr.alloc (.cells #[.string N, .string V, .bool false, .bool true] 30) = w5 at *
                  have HK1 : Hid (∀ W, Below w5.heap.size w5 W → Below w.heap.size w W) := fun W h => HW1.out.trans (h.mono HW1.out.size)
                  have HEn1 : Hid (∀ W, Below w5.heap.size w5 W → Calls Tryd.prog 17 #[.string N] W fun e w' => e = .returned (.string EN) ∧ Below w5.heap.size w5 w') := fun W h => by
                    refine (HEN.out W (HK1.out W h)).mono ?_
                    rintro e w' ⟨q1, q2⟩
                    exact ⟨q1, chainR h q2⟩
                  have hc1 : ∀ w', Below w5.heap.size w5 w' → w'.cell? ⟨wr.heap.size, 0, none⟩ = some (.string N) := fun w' h => (HX1.out.later h).cell rfl
                  have H01 : Hid (Below w5.heap.size w5 w5.drew) := (Below.refl _ _).drew
                  have HA1 : Hid (Below w5.heap.size w5 (w5.alloc (.cells #[.int .i64 0] 3)).drew) := ((Below.refl _ _).alloc (Nat.le_refl _) _).drew
                  have HBa1 : Hid (Calls Tryd.prog 16 #[.slice (some ⟨w5.heap.size, 0, none⟩) 1 1] (w5.alloc (.cells #[.int .i64 0] 3)).drew fun e w' => e = .returned (.string ⟨#[0]⟩) ∧ Below w5.heap.size w5 w') := HBY.out 0 w5
                  have HBb1 : Hid (∀ W, Below w5.heap.size w5 W → Calls Tryd.prog 16 #[.slice (some ⟨W.heap.size, 0, none⟩) 1 1] (W.alloc (.cells #[.int .i64 0] 3)) fun e w' => e = .returned (.string ⟨#[0]⟩) ∧ Below w5.heap.size w5 w') := fun W h => by
                    refine (HBP.out 0 W).mono ?_
                    rintro e w' ⟨q1, q2⟩
                    exact ⟨q1, chainR h q2⟩
                  have hone1 : (⟨#[0]⟩ : ByteArray).size = 1 := rfl
                  have hsum1 : ¬ (9223372036854775807 < (⟨#[0]⟩ : ByteArray).size + EN.size) := by omega
                  obtain ⟨BE1, hBE1⟩ : ∃ X, (⟨#[0]⟩ : ByteArray) ++ EN = X := ⟨_, rfl⟩
                  have htot1 : ¬ (9223372036854775807 < S.size + BE1.size) := by rw [← hBE1, ByteArray.size_append]; omega
                  rw [hBE1] at hcat1
                  clear hone1
                  generalize (⟨#[0]⟩ : ByteArray) = B1 at *
                  go_wp2_with fail
                  go_region_held3 (fun w' => Below w5.heap.size w5 w') (first | with_reducible assumption | with_reducible exact H01.out | with_reducible exact HA1.out | exact Below.alloc (by assumption) (Below.size (by assumption)) _) (first | (go_at_call 16; refine HBa1.out.mono ?_; rintro e wx ⟨rfl, hbx⟩) | (go_at_call 16; refine (HBb1.out _ (by assumption)).mono ?_; rintro e wx ⟨rfl, hbx⟩) | (go_at_call 17; refine (HEn1.out _ (by first | assumption | exact H01.out | exact HA1.out)).mono ?_; rintro e wx ⟨rfl, hbx⟩))
                  all_goals (
                    have h8 : Below w5.heap.size w5 wx := by first | assumption | exact hbx
                    have hset := HK3.out wx h8
                    have HW2 := Hid.mk' (HK1.out wx h8)
                    have HX2 := Hid.mk' (HX1.out.later h8)
                    clear HK3 HK1 HEn1 hc1 H01 HA1 HBa1 HBb1 HX1 HW1 hbx
                    have HK2 : Hid (∀ W, Below wx.heap.size wx W → Below w.heap.size w W) := fun W h => HW2.out.trans (h.mono HW2.out.size)
                    have HEn2 : Hid (∀ W, Below wx.heap.size wx W → Calls Tryd.prog 17 #[.string V] W fun e w' => e = .returned (.string EV) ∧ Below wx.heap.size wx w') := fun W h => by
                      refine (HEV.out W (HK2.out W h)).mono ?_
                      rintro e w' ⟨q1, q2⟩
                      exact ⟨q1, chainR h q2⟩
                    have hc2 : ∀ w', Below wx.heap.size wx w' → w'.cell? ⟨wr.heap.size, 1, none⟩ = some (.string V) := fun w' h => (HX2.out.later h).cell rfl
                    have H02 : Hid (Below wx.heap.size wx wx.drew) := (Below.refl _ _).drew
                    have HA2 : Hid (Below wx.heap.size wx (wx.alloc (.cells #[.int .i64 1] 3)).drew) := ((Below.refl _ _).alloc (Nat.le_refl _) _).drew
                    have HBa2 : Hid (Calls Tryd.prog 16 #[.slice (some ⟨wx.heap.size, 0, none⟩) 1 1] (wx.alloc (.cells #[.int .i64 1] 3)).drew fun e w' => e = .returned (.string ⟨#[1]⟩) ∧ Below wx.heap.size wx w') := HBY.out 1 wx
                    have HBb2 : Hid (∀ W, Below wx.heap.size wx W → Calls Tryd.prog 16 #[.slice (some ⟨W.heap.size, 0, none⟩) 1 1] (W.alloc (.cells #[.int .i64 1] 3)) fun e w' => e = .returned (.string ⟨#[1]⟩) ∧ Below wx.heap.size wx w') := fun W h => by
                      refine (HBP.out 1 W).mono ?_
                      rintro e w' ⟨q1, q2⟩
                      exact ⟨q1, chainR h q2⟩
                    have hone2 : (⟨#[1]⟩ : ByteArray).size = 1 := rfl
                    have hsum2 : ¬ (9223372036854775807 < (⟨#[1]⟩ : ByteArray).size + EV.size) := by omega
                    obtain ⟨BE2, hBE2⟩ : ∃ X, (⟨#[1]⟩ : ByteArray) ++ EV = X := ⟨_, rfl⟩
                    have htot2 : ¬ (9223372036854775807 < S2.size + BE2.size) := by rw [← hBE2, ByteArray.size_append]; omega
                    rw [hBE2] at hcat2
                    clear hone2
                    generalize (⟨#[1]⟩ : ByteArray) = B2 at *
                    go_wp2_with fail
                    go_region_held3 (fun w' => Below wx.heap.size wx w') (first | with_reducible assumption | with_reducible exact H02.out | with_reducible exact HA2.out | exact Below.alloc (by assumption) (Below.size (by assumption)) _) (first | (go_at_call 16; refine HBa2.out.mono ?_; rintro e wz ⟨rfl, hbz⟩) | (go_at_call 16; refine (HBb2.out _ (by assumption)).mono ?_; rintro e wz ⟨rfl, hbz⟩) | (go_at_call 17; refine (HEn2.out _ (by first | assumption | exact H02.out | exact HA2.out)).mono ?_; rintro e wz ⟨rfl, hbz⟩))
                    all_goals (
                      have h9 : Below wx.heap.size wx wz := by first | assumption | exact hbz
                      have HW3 := Hid.mk' (HK2.out wz h9)
                      clear HK2 HEn2 hc2 H02 HA2 HBa2 HBb2 HX2 HW2 hbz
                      go_wp2
                      go_roundg (l.length - (k + 1))
                      case measure => omega
                      case rel => exact ⟨k + 1, S3, by omega, by omega, by go_num, rfl, HZ2.out, HS2, HW3⟩))
                | false =>
                  have hcat1 : S ++ ((⟨#[0]⟩ : ByteArray) ++ bs (esc l[k].name)) = bs (txt (l.take k) ++ (0 :: esc l[k].name)) := by rw [HS.out, show (⟨#[0]⟩ : ByteArray) = bs [0] from rfl, bs_app, bs_app]; rfl
                  have hz1 : (bs (txt (l.take k) ++ (0 :: esc l[k].name))).size ≤ 17000 := by rw [← hcat1, ByteArray.size_append, ByteArray.size_append]; have : (⟨#[0]⟩ : ByteArray).size = 1 := rfl; omega
                  have hcat2 : bs (txt (l.take k) ++ (0 :: esc l[k].name)) = bs (txt (l.take (k + 1))) := by rw [HTX.out, hu]; congr 1; simp [markOf, valText, hs]
                  have HZ2 : Hid ((bs (txt (l.take (k + 1)))).size ≤ 20000) := by rw [bs_size]; have := HTZ.out; exact Hid.mk' (by omega)
                  obtain ⟨S3, hS3⟩ : ∃ S3, bs (txt (l.take (k + 1))) = S3 := ⟨_, rfl⟩
                  have HS2 : Hid (S3 = bs (txt (l.take (k + 1)))) := hS3.symm
                  rw [hS3] at hcat2 HZ2
                  clear hS3
                  rw [hu] at t2
                  rw [hs] at t3
                  have HXa := Hid.mk' (HX0 [.string (bs l[k].name), .string (bs l[k].value), .bool false, .bool false])
                  have HW1 := Hid.mk' (HB2 #[.string (bs l[k].name), .string (bs l[k].value), .bool false, .bool false]).out
                  have HX1 : Hid (Box (wr.alloc (.cells #[.string (bs l[k].name), .string (bs l[k].value), .bool false, .bool false] 30)) wr.heap.size 30 [.string (bs l[k].name), .string (bs l[k].value), .bool false, .bool false]) := HXa.out.out
                  have hk3 : ∀ w', Below (wr.alloc (.cells #[.string (bs l[k].name), .string (bs l[k].value), .bool false, .bool false] 30)).heap.size (wr.alloc (.cells #[.string (bs l[k].name), .string (bs l[k].value), .bool false, .bool false] 30)) w' → w'.cell? ⟨wr.heap.size, 3, none⟩ = some (.bool false) := fun w' h => (HX1.out.later h).cell rfl
                  have HK3 := Hid.mk' hk3
                  clear HXa HX0 HB2 hk3 hu hs HTX HTZ HS HB
                  generalize bs (txt (l.take k) ++ (0 :: esc l[k].name)) = S2 at *
                  generalize bs (esc l[k].name) = EN at *
                  generalize bs (esc l[k].value) = EV at *
                  generalize bs l[k].name = N at *
                  generalize bs l[k].value = V at *
                  go_wp2_with fail
                  generalize wr.alloc (.cells #[.string N, .string V, .bool false, .bool false] 30) = w5 at *
                  have HK1 : Hid (∀ W, Below w5.heap.size w5 W → Below w.heap.size w W) := fun W h => HW1.out.trans (h.mono HW1.out.size)
                  have HEn1 : Hid (∀ W, Below w5.heap.size w5 W → Calls Tryd.prog 17 #[.string N] W fun e w' => e = .returned (.string EN) ∧ Below w5.heap.size w5 w') := fun W h => by
                    refine (HEN.out W (HK1.out W h)).mono ?_
                    rintro e w' ⟨q1, q2⟩
                    exact ⟨q1, chainR h q2⟩
                  have hc1 : ∀ w', Below w5.heap.size w5 w' → w'.cell? ⟨wr.heap.size, 0, none⟩ = some (.string N) := fun w' h => (HX1.out.later h).cell rfl
                  have H01 : Hid (Below w5.heap.size w5 w5.drew) := (Below.refl _ _).drew
                  have HA1 : Hid (Below w5.heap.size w5 (w5.alloc (.cells #[.int .i64 0] 3)).drew) := ((Below.refl _ _).alloc (Nat.le_refl _) _).drew
                  have HBa1 : Hid (Calls Tryd.prog 16 #[.slice (some ⟨w5.heap.size, 0, none⟩) 1 1] (w5.alloc (.cells #[.int .i64 0] 3)).drew fun e w' => e = .returned (.string ⟨#[0]⟩) ∧ Below w5.heap.size w5 w') := HBY.out 0 w5
                  have HBb1 : Hid (∀ W, Below w5.heap.size w5 W → Calls Tryd.prog 16 #[.slice (some ⟨W.heap.size, 0, none⟩) 1 1] (W.alloc (.cells #[.int .i64 0] 3)) fun e w' => e = .returned (.string ⟨#[0]⟩) ∧ Below w5.heap.size w5 w') := fun W h => by
                    refine (HBP.out 0 W).mono ?_
                    rintro e w' ⟨q1, q2⟩
                    exact ⟨q1, chainR h q2⟩
                  have hone1 : (⟨#[0]⟩ : ByteArray).size = 1 := rfl
                  have hsum1 : ¬ (9223372036854775807 < (⟨#[0]⟩ : ByteArray).size + EN.size) := by omega
                  obtain ⟨BE1, hBE1⟩ : ∃ X, (⟨#[0]⟩ : ByteArray) ++ EN = X := ⟨_, rfl⟩
                  have htot1 : ¬ (9223372036854775807 < S.size + BE1.size) := by rw [← hBE1, ByteArray.size_append]; omega
                  rw [hBE1] at hcat1
                  clear hone1
                  generalize (⟨#[0]⟩ : ByteArray) = B1 at *
                  go_wp2_with fail
                  go_region_held3 (fun w' => Below w5.heap.size w5 w') (first | with_reducible assumption | with_reducible exact H01.out | with_reducible exact HA1.out | exact Below.alloc (by assumption) (Below.size (by assumption)) _) (first | (go_at_call 16; refine HBa1.out.mono ?_; rintro e wx ⟨rfl, hbx⟩) | (go_at_call 16; refine (HBb1.out _ (by assumption)).mono ?_; rintro e wx ⟨rfl, hbx⟩) | (go_at_call 17; refine (HEn1.out _ (by first | assumption | exact H01.out | exact HA1.out)).mono ?_; rintro e wx ⟨rfl, hbx⟩))
                  all_goals (
                    have h8 : Below w5.heap.size w5 wx := by first | assumption | exact hbx
                    have hset := HK3.out wx h8
                    have HW2 := Hid.mk' (HK1.out wx h8)
                    have HX2 := Hid.mk' (HX1.out.later h8)
                    clear HK3 HK1 HEn1 hc1 H01 HA1 HBa1 HBb1 HX1 HW1 hbx
                    subst hcat2
                    go_wp2
                    go_roundg (l.length - (k + 1))
                    case measure => omega
                    case rel => exact ⟨k + 1, _, by omega, by omega, by go_num, rfl, HZ2.out, HS2, HW2⟩)
            · obtain rfl : k = l.length := by omega
              have eT : S = T1 := by rw [HS.out, List.take_length]; exact HT1.out
              subst eT
              clear HE HLGS HBY HBP HS HT1
              go_wp2
              go_ret2
              exact ⟨rfl, HB.out⟩
end Go.Proofs.YtbfiompbngpjoaaDoor.E
