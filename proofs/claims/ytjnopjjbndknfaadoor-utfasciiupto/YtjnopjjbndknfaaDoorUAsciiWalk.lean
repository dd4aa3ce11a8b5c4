/-
  farkeep.UtfAscii returns true; conditions: the two tables of unicode/utf8 hold what their initialisers lay; at most 1048576 bytes together.
-/
import Derived.Test.YtjnopjjbndknfaaDoorUDel
namespace Go.Proofs.YtjnopjjbndknfaaDoor.U
open Go.RowKit Go.Lib Go.Proofs.YtjnopjjbndknfaaDoor

set_option maxHeartbeats 4000000 in
theorem IndexFunc_none (a : Option Addr) (cap : Nat) (w : World) :
    Calls Tryd.prog 48 #[.slice a 0 cap, .func (.func 29) #[] #[]] w fun e w' => e = .returned (.int .i64 (-1)) ∧ w = w' := by
  go_enter Tryd.func48, Tryd.ntmps48
  go_wp2_with fail
  go_loopw [8] (fun i wr => i = .int .i64 0 ∧ wr = w) (fun _ _ => 0)
  case atStart => exact ⟨rfl, rfl⟩
  case round =>
    obtain ⟨rfl, hw⟩ := hrel
    subst hw
    go_wp2
    go_ret
    exact ⟨rfl, rfl⟩

set_option maxHeartbeats 4000000 in
theorem DeleteFunc_none (a : Option Addr) (cap : Nat) (w : World) :
    Calls Tryd.prog 28 #[.slice a 0 cap, .func (.func 29) #[] #[]] w fun e w' => e = .returned (.slice a 0 cap) ∧ w = w' := by
  have H := IndexFunc_none a cap w
  go_enter Tryd.func28, Tryd.ntmps28
  go_wp2_with fail
  refine H.mono ?_
  rintro e w1 ⟨rfl, rfl⟩
  go_wp2
  go_ret
  exact ⟨rfl, rfl⟩

theorem DeleteFunc_any (v : Value) (l : List Int) (w : World) (B : Nat) (ho : OwnR w B 3 1 v l.length (icells l)) (hl : l.length ≤ 1000000000) :
    Calls Tryd.prog 28 #[v, .func (.func 29) #[] #[]] w fun e w' => ∃ v, e = .returned v ∧ RdI w' v (lowF l) ∧ Below B w w' := by
  rcases ho.form with ⟨rfl, e⟩ | ⟨g, cap, rfl, _⟩
  · have : l = [] := List.length_eq_zero_iff.1 e
    subst this
    refine (DeleteFunc_none none 0 w).mono ?_
    rintro e w' ⟨rfl, rfl⟩
    exact ⟨_, rfl, ⟨none, 0, rfl, by simp [lowF], .inl rfl⟩, Below.refl _ _⟩
  · exact DeleteFunc_some l g cap w B ho hl

theorem lowF_ints (l : List Nat) : lowF (ints l) = ints (l.filter fun c => decide (c < 128)) := by
  induction l with
  | nil => rfl
  | cons c l ih =>
    have e1 : ints (c :: l) = (c : Int) :: ints l := rfl
    rw [e1]
    unfold lowF at *
    rw [List.filter_cons, List.filter_cons]
    by_cases h : c < 128
    · have h' : (c : Int) < 128 := by omega
      rw [if_pos (decide_eq_true h'), if_pos (decide_eq_true h), ih]
      rfl
    · have h' : ¬ (c : Int) < 128 := by omega
      rw [if_neg (by rw [decide_eq_true_eq]; exact h'), if_neg (by rw [decide_eq_true_eq]; exact h), ih]

theorem asc_snoc (s : List UInt8) (k : Nat) (h : k < s.length) : asc (s.take (k + 1)) = asc (s.take k) ++ (if s[k].toNat < 128 then [s[k].toNat] else []) := by
  rw [List.take_succ_eq_append_getElem h, asc_app]
  congr 1
  by_cases hb : s[k].toNat < 128
  · simp [asc, hb]
  · simp [asc, hb]
theorem asc_len (s : List UInt8) : (asc s).length ≤ s.length := by
  unfold asc
  refine Nat.le_trans (List.length_filter_le _ _) (by simp)

def AState (w : World) (s : List UInt8) (s8 s26 : Value) (wr : World) : Prop :=
  ∃ k : Nat, k ≤ s.length ∧ s26 = .int .i64 (k : Int) ∧ OwnR wr w.heap.size 3 1 s8 (ints (asc (s.take k))).length (icells (ints (asc (s.take k)))) ∧ Below w.heap.size w wr

set_option maxHeartbeats 8000000 in
set_option maxRecDepth 100000 in
theorem Ascii_bad (p s : List UInt8) (w : World) (hT : Tabs w) (hp : ¬ (p = [] ∨ beg p = true)) :
    Calls Tryd.prog 8 #[.string ⟨p.toArray⟩, .string ⟨s.toArray⟩] w fun e w' => e = .returned (.bool true) ∧ Below w.heap.size w w' := by
  have HF := Feed_bad p s w hT hp
  have HL : Hid (∀ wr, Below w.heap.size w wr → Calls Tryd.prog 25 #[] wr fun e w' => e = .returned (.bool true) ∧ Below wr.heap.size wr w') := fun wr hb => lives_any wr (hT.below hb)
  generalize (⟨p.toArray⟩ : ByteArray) = SP at *
  generalize (⟨s.toArray⟩ : ByteArray) = SS at *
  clear hT hp
  go_enter Tryd.func8, Tryd.ntmps8
  go_wp2_with fail
  refine HF.mono ?_
  rintro e w1 ⟨rfl, hb1⟩
  have HB1 := Hid.mk' hb1
  clear hb1
  go_wp2_with fail
  refine (HL.out w1 HB1.out).mono ?_
  rintro e w2 ⟨rfl, hb2⟩
  have HB2 : Hid (Below w.heap.size w w2) := HB1.out.trans (hb2.mono HB1.out.size)
  clear hb2
  go_wp2_with fail
  refine (HL.out w2 HB2.out).mono ?_
  rintro e w3 ⟨rfl, hb3⟩
  have HB3 : Hid (Below w.heap.size w w3) := HB2.out.trans (hb3.mono HB2.out.size)
  clear hb3
  go_wp2
  go_ret
  exact ⟨rfl, HB3.out⟩

set_option maxHeartbeats 8000000 in
set_option maxRecDepth 100000 in
theorem Ascii_ok0 (p s : List UInt8) (SS : ByteArray) (HSS : SS = ⟨s.toArray⟩) (hsz : SS.size = s.length) (HG : Hid (∀ k (h : k < s.length) (h2 : k < SS.size), SS[k] = s[k])) (w : World) (hT : Tabs w) (hp : p = [] ∨ beg p = true) (hl : p.length + s.length ≤ 1048576) :
    Calls Tryd.prog 8 #[.string ⟨p.toArray⟩, .string SS] w fun e w' => e = .returned (.bool true) ∧ Below w.heap.size w w' := by
  obtain ⟨i0, hi, hz0, hz1, hz2⟩ := info_parts infoInt
  have HF := Hid.mk' (Feed_ok p s w hT hp (by omega))
  have HL : Hid (∀ wr, Below w.heap.size w wr → Calls Tryd.prog 25 #[] wr fun e w' => e = .returned (.bool true) ∧ Below wr.heap.size wr w') := fun wr hb => lives_any wr (hT.below hb)
  have HLAW : Hid (lowF (ints (rd (p ++ s)).2) = ints (asc s)) := by
    show _ = _
    rw [lowF_ints, rd_asc _ (p ++ s) (Nat.le_refl _), asc_app]
    have : asc p = [] := by
      rcases hp with rfl | h
      · rfl
      · exact asc_high (beg_high h)
    rw [this]; rfl
  have hrl : (ints (rd (p ++ s)).2).length ≤ 1048576 := by
    have := (rd_left _ (p ++ s) (Nat.le_refl _)).2
    rw [List.length_append] at this
    simp [ints]; omega
  rw [← HSS] at HF
  clear HSS
  generalize ints (rd (p ++ s)).2 = R at *
  generalize (⟨(rd (p ++ s)).1.toArray⟩ : ByteArray) = SX at *
  generalize (⟨p.toArray⟩ : ByteArray) = SP at *
  clear hT hp
  go_enter Tryd.func8, Tryd.ntmps8
  go_wp2_with fail
  refine HF.out.mono ?_
  rintro e w1 ⟨v1, rfl, ho1, hb1⟩
  have HB1 := Hid.mk' hb1
  have HR1 := Hid.mk' (RdI.own ho1)
  clear hb1 HF ho1
  go_wp2_with fail
  refine (HL.out w1 HB1.out).mono ?_
  rintro e w2 ⟨rfl, hb2⟩
  have HB2 : Hid (Below w.heap.size w w2) := HB1.out.trans (hb2.mono HB1.out.size)
  have HR2 := Hid.mk' (HR1.out.below hb2)
  have hw2 := HB2.out.size
  clear hb2 HR1
  have HS : Hid (AState w2 s (.slice none 0 0) (.int .i64 0) w2) := ⟨0, Nat.zero_le _, rfl, OwnR.nil _ _ _ _, Below.refl _ _⟩
  go_wp2_with fail
  go_loopw [8, 26] (fun s8 s26 wr => AState w2 s s8 s26 wr) (fun _ i _ => s.length - (RowKit.intOf i).toNat)
  case atStart => exact HS.out
  case round =>
    obtain ⟨k, hk, rfl, ho, hbl⟩ := hrel
    clear HS
    have hswr := hbl.size
    by_cases hlt : k < s.length
    · have hkS : k < SS.size := by omega
      have ek := HG.out k hlt hkS
      have hsn := asc_snoc s k hlt
      have hal := asc_len (s.take k)
      have htl : (s.take k).length ≤ s.length := List.length_take_le' _ _
      have hll : (ints (asc (s.take k))).length ≤ 1048576 := by simp [ints]; omega
      have lx := s[k].toNat_lt
      generalize hxk : s[k] = x at *
      clear hxk
      by_cases hx : x.toNat < 128
      · have hx' : (x.toNat : Int) < 128 := by omega
        rw [if_pos hx] at hsn
        have HE : Hid (ints (asc (s.take (k + 1))) = ints (asc (s.take k)) ++ [(x.toNat : Int)]) := by
          show _ = _
          rw [hsn]; simp [ints]
        have HBL := Hid.mk' hbl
        clear hsn hx hbl hal htl
        generalize ints (asc (s.take k)) = A at *
        go_wp2_with (at_builtin; refine wpList_append_R _ rfl (.tmp 33) (.tmp 38) 38 rfl w2.heap.size 3 i0 (.int .i64 0) 1 8 Tryd.underlying38 hi hz0 hz1 hz2 rfl (by decide) u8 A.length (icells A) rfl (ho.keptAt fun k hk => Below.heap_alloc _ _ _ (ho.lt k hk).2) ⟨wr.heap.size, 0, none⟩ 1 1 (icells [(x.toNat : Int)]) rfl rfl ?c1 (icells_one _) (by decide) ?c3 ?c4 ?c5 (wr.heap.size + 1) (by simp) ?_)
        case c1 => exact fun j u hu => World.news_of_block (by simpa using (MapKept.heap_alloc wr _).1) j u hu
        case c3 => unfold maxLen; omega
        case c4 => omega
        case c5 => first | omega | (simp; omega)
        intro g1 cap1 w4 hown hgr hat hlt2
        have HO := Hid.mk' hown
        have HB4 : Hid (Below w2.heap.size w2 w4) := (HBL.out.alloc (by omega) _).grown hgr (by simp; omega) (fun k hk => (ho.lt k hk).1)
        clear hown hgr hat ho
        go_wp2
        go_roundw
        case rel =>
          refine ⟨k + 1, by omega, by go_num, ?_, HB4.out⟩
          rw [HE.out]
          have := HO.out
          simpa [icells] using this
        case measure => simp [RowKit.intOf]; omega
      · have hx' : ¬ (x.toNat : Int) < 128 := by omega
        rw [if_neg hx, List.append_nil] at hsn
        rw [← hsn] at ho
        have HO := Hid.mk' ho
        have HBL := Hid.mk' hbl
        clear hsn hx ho hbl hal htl hll
        go_wp2
        go_roundw
        case rel => exact ⟨k + 1, by omega, by go_num, HO.out, HBL.out⟩
        case measure => simp [RowKit.intOf]; omega
    · obtain rfl : k = s.length := by omega
      rw [List.take_length] at ho
      have HBW : Hid (Below w.heap.size w wr) := HB2.out.trans (hbl.mono hw2)
      have HRW := Hid.mk' (HR2.out.below hbl)
      have HOW := Hid.mk' ho
      have hal := asc_len s
      have hll : (ints (asc s)).length ≤ 1048576 := by simp [ints]; omega
      clear ho hbl hal
      have HCL := Hid.mk' (Clone_any wr v1 R HRW.out (by omega))
      go_wp2_with fail
      refine HCL.out.mono ?_
      rintro e w5 ⟨v5, rfl, ho5, hb5⟩
      have HB5 : Hid (Below w.heap.size w w5) := HBW.out.trans (hb5.mono HBW.out.size)
      have HO5 := Hid.mk' (keptBy HOW.out hb5)
      have HDL := Hid.mk' (DeleteFunc_any v5 R w5 wr.heap.size ho5 (by omega))
      have hs5 := HBW.out.size
      clear hb5 HCL ho5
      go_wp2_with fail
      refine HDL.out.mono ?_
      rintro e w6 ⟨v6, rfl, hr6, hb6⟩
      have HB6 : Hid (Below w.heap.size w w6) := HB5.out.trans (hb6.mono hs5)
      have HO6 := Hid.mk' (HO5.out.keptAt fun k hk => hb6.block k (HOW.out.lt k hk).2)
      rw [HLAW.out] at hr6
      have heq := Equal_any w6 v6 _ (ints (asc s)) (ints (asc s)) hr6 (RdI.own HO6.out) (by omega) (by omega)
      rw [beq_self_eq_true] at heq
      have HEQ := Hid.mk' heq
      clear hr6 hb6 heq HDL
      go_wp2_with fail
      refine HEQ.out.mono ?_
      rintro e w7 ⟨rfl, q, rfl⟩
      go_wp2
      go_ret
      exact ⟨rfl, below_drewN HB6.out q⟩

theorem Ascii_ok (p s : List UInt8) (w : World) (hT : Tabs w) (hp : p = [] ∨ beg p = true) (hl : p.length + s.length ≤ 1048576) :
    Calls Tryd.prog 8 #[.string ⟨p.toArray⟩, .string ⟨s.toArray⟩] w fun e w' => e = .returned (.bool true) ∧ Below w.heap.size w w' :=
  Ascii_ok0 p s ⟨s.toArray⟩ rfl (by simp [ByteArray.size]) (fun k h h2 => by
    show s.toArray[k] = s[k]
    simp) w hT hp hl
end Go.Proofs.YtjnopjjbndknfaaDoor.U
