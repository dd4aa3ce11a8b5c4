/-
  Contract of unicode/utf8.DecodeRuneInString by the plain `dec`, of utf.badLen and utf.first; conditions: the two tables of unicode/utf8 hold what their initialisers lay; at most 2^40 bytes.
  Contract of utf.Feed: what is left and the runes are those of the plain reader `rd`; conditions: the two tables of unicode/utf8 hold what their initialisers lay; at most 1073741824 bytes.
  What may be written, and what is then written, as the plain functions have it: equations of lists and Bools; no run in this text, no condition.
-/
import Derived.Test.YtneiiinheimglaaGreatDoorUShelf
import Derived.Test.YtneiiinheimglaaGreatDoorUFull
import Derived.Deep.LoopGhost
import Derived.Deep.Draws
import Derived.OwnWalk
import Derived.Test.YtneiiinheimglaaGreatDoorJ15
namespace Go.Proofs.YtneiiinheimglaaGreatDoor.U
open Go.RowKit Go.Lib Go.Proofs.YtneiiinheimglaaGreatDoor

theorem get_nth (L : List UInt8) (k : Nat) : ((⟨L.toArray⟩ : ByteArray).get! k).toNat = nth L k := by
  unfold nth
  congr 1
  show L.toArray[k]! = L.getD k 0
  by_cases h : k < L.length
  · simp [h, List.getD]
  · simp [List.getD, h]
    rfl

theorem Dec_any (L : List UInt8) (w : World) (hT : Tabs w) (h0 : L ≠ []) :
    Calls Tryz.prog 39 #[.string ⟨L.toArray⟩] w fun e w' => e = .returned (.tuple #[.int .i32 ((dec L).1 : Int), .int .i64 ((dec L).2 : Int)]) ∧ Below w.heap.size w w' := by
  have H := Tryz.utf8_DecodeRuneInString ⟨L.toArray⟩ w hT
  have hsz : (⟨L.toArray⟩ : ByteArray).size = L.length := by simp [ByteArray.size]
  have hn : L.length ≠ 0 := fun e => h0 (List.eq_nil_of_length_eq_zero e)
  have e : Lib.decodeGo ⟨L.toArray⟩ = dec L := by
    unfold Lib.decodeGo dec
    rw [if_neg (by omega), Lib.decode_at, hsz, Nat.sub_zero, get_nth, get_nth, get_nth, get_nth]
  rw [e] at H
  exact H

theorem take_list (L : List UInt8) (k : Nat) : (⟨L.toArray⟩ : ByteArray).extract 0 k = ⟨(L.take k).toArray⟩ := by
  apply ByteArray.ext
  rw [ByteArray.data_extract]
  apply Array.toList_inj.1
  simp [List.extract_eq_take_drop]
theorem rest_list (L : List UInt8) (k : Nat) : (⟨L.toArray⟩ : ByteArray).extract k (⟨L.toArray⟩ : ByteArray).size = ⟨(L.drop k).toArray⟩ := by
  apply ByteArray.ext
  rw [ByteArray.data_extract]
  apply Array.toList_inj.1
  simp only [Array.toList_extract, List.extract_eq_take_drop]
  have : (⟨L.toArray⟩ : ByteArray).size = L.length := by simp [ByteArray.size]
  rw [this, List.take_of_length_le (by simp)]

def BState (L : List UInt8) (w : World) (g : Nat) (s : Value) (wr : World) : Prop :=
  ∃ k : Nat, 1 ≤ k ∧ k ≤ L.length ∧ s = .int .i64 (k : Int) ∧ 4 - k ≤ g ∧ k ≤ 3 ∧ (2 ≤ k → beg (L.take 2) = true) ∧ (3 ≤ k → beg (L.take 3) = true) ∧ Below w.heap.size w wr

theorem beg_four (L : List UInt8) (h : 3 < L.length) : beg (L.take 4) = false := by
  match L, h with
  | a :: b :: c :: d :: t, _ => rfl

set_option maxHeartbeats 4000000 in
set_option maxRecDepth 100000 in
theorem badLen_any (L : List UInt8) (w : World) (hT : Tabs w) (h0 : L ≠ []) (hl : L.length ≤ 1099511627776) :
    Calls Tryz.prog 40 #[.string ⟨L.toArray⟩] w fun e w' => e = .returned (.int .i64 (badLen L : Int)) ∧ Below w.heap.size w w' := by
  have hn : 1 ≤ L.length := Nat.pos_of_ne_zero fun e => h0 (List.eq_nil_of_length_eq_zero e)
  have HS : Hid (BState L w 3 (.int .i64 1) w) := ⟨1, Nat.le_refl _, hn, rfl, by omega, by omega, by omega, by omega, Below.refl _ _⟩
  have hsz : (⟨L.toArray⟩ : ByteArray).size = L.length := by simp [ByteArray.size]
  have HX := Hid.mk' (take_list L)
  have HI : Hid (∀ wr, Below w.heap.size w wr → ∀ k, Calls Tryz.prog 22 #[.string ⟨(L.take k).toArray⟩] wr fun e w' => e = .returned (.bool (beg (L.take k))) ∧ Below wr.heap.size wr w') := fun wr hb k => isBeg_any (L.take k) wr (hT.below hb)
  have HB4 := Hid.mk' (beg_four L)
  have HV : Hid (∀ k, 1 ≤ k → k ≤ L.length → k ≤ 3 → (2 ≤ k → beg (L.take 2) = true) → (3 ≤ k → beg (L.take 3) = true) → ¬ (k < L.length ∧ beg (L.take (k + 1)) = true) → badLen L = k) := by
    intro k h1 h2 h3 h4 h5 h6
    unfold badLen
    rcases (by omega : k = 1 ∨ k = 2 ∨ k = 3) with rfl | rfl | rfl
    · rw [if_neg h6]
    · rw [if_pos ⟨by omega, h4 (by omega)⟩, if_neg h6]
    · rw [if_pos ⟨by omega, h4 (by omega)⟩, if_pos ⟨by omega, h5 (by omega)⟩]
  generalize badLen L = N at *
  generalize (⟨L.toArray⟩ : ByteArray) = S at *
  clear hT
  go_enter Tryz.func40, Tryz.ntmps40
  go_wp2_with fail
  go_loopg [3] 3 (fun g s wr => BState L w g s wr)
  case atStart => exact HS.out
  case round =>
    obtain ⟨k, hk1, hkl, rfl, hg, hk3, hb2, hb3, hbl⟩ := hrel
    clear HS
    have HB2 := Hid.mk' hb2
    have HB3 := Hid.mk' hb3
    have HB := Hid.mk' hbl
    have hswr := hbl.size
    clear hb2 hb3 hbl
    by_cases hlt : k < L.length
    · have hks : (k : Int) < (S.size : Int) := by omega
      have xk := HX.out (k + 1)
      have HK := Hid.mk' (HI.out wr HB.out (k + 1))
      cases hbk : beg (L.take (k + 1)) with
      | true =>
        have hk2 : k ≤ 2 := by
          rcases (by omega : k ≤ 2 ∨ k = 3) with h | rfl
          · exact h
          · have := HB4.out hlt
            rw [hbk] at this; cases this
        rw [hbk] at HK
        have HN2 : Hid (2 ≤ k + 1 → beg (L.take 2) = true) := fun _ => by
          rcases (by omega : k = 1 ∨ 2 ≤ k) with rfl | h
          · exact hbk
          · exact HB2.out h
        have HN3 : Hid (3 ≤ k + 1 → beg (L.take 3) = true) := fun h => by
          obtain rfl : k = 2 := by omega
          exact hbk
        clear hbk
        generalize (⟨(L.take (k + 1)).toArray⟩ : ByteArray) = R at xk HK
        go_wp2_with fail
        refine HK.out.mono ?_
        rintro e w1 ⟨rfl, hb1⟩
        have HB1 : Hid (Below w.heap.size w w1) := HB.out.trans (hb1.mono hswr)
        clear hb1
        go_wp2
        go_roundg (4 - (k + 1))
        case measure => omega
        case rel => exact ⟨k + 1, by omega, by omega, by go_num, Nat.le_refl _, by omega, HN2.out, HN3.out, HB1.out⟩
      | false =>
        have hv := HV.out k hk1 hkl hk3 HB2.out HB3.out (fun h => by rw [hbk] at h; cases h.2)
        subst hv
        rw [hbk] at HK
        clear hbk
        generalize (⟨(L.take (N + 1)).toArray⟩ : ByteArray) = R at xk HK
        go_wp2_with fail
        refine HK.out.mono ?_
        rintro e w1 ⟨rfl, hb1⟩
        have HB1 : Hid (Below w.heap.size w w1) := HB.out.trans (hb1.mono hswr)
        clear hb1
        go_wp2
        go_ret
        exact ⟨rfl, HB1.out⟩
    · have hv := HV.out k hk1 hkl hk3 HB2.out HB3.out (fun h => hlt h.1)
      subst hv
      have hks : ¬ (N : Int) < (S.size : Int) := by omega
      go_wp2
      go_ret
      exact ⟨rfl, HB.out⟩

theorem dec_bounds (L : List UInt8) : (dec L).1 ≤ 1114111 ∧ (dec L).2 ≤ 4 := by
  refine ⟨by have := dec_rune L; unfold isRune at this; omega, ?_⟩
  unfold dec decodeN
  repeat' split
  all_goals simp

set_option maxHeartbeats 4000000 in
set_option maxRecDepth 100000 in
theorem first_any (L : List UInt8) (w : World) (hT : Tabs w) (h0 : L ≠ []) (hl : L.length ≤ 1099511627776) :
    Calls Tryz.prog 23 #[.string ⟨L.toArray⟩] w fun e w' => e = .returned (.tuple #[.int .i64 ((first L).1 : Int), .int .i64 ((first L).2 : Int)]) ∧ Below w.heap.size w w' := by
  have HD := Dec_any L w hT h0
  have HBL : Hid (∀ wr, Below w.heap.size w wr → Calls Tryz.prog 40 #[.string ⟨L.toArray⟩] wr fun e w' => e = .returned (.int .i64 (badLen L : Int)) ∧ Below wr.heap.size wr w') := fun wr hb => badLen_any L wr (hT.below hb) h0 hl
  have hbd := dec_bounds L
  unfold first
  generalize dec L = D at *
  obtain ⟨r, n⟩ := D
  simp only at HD hbd ⊢
  generalize badLen L = N at *
  generalize (⟨L.toArray⟩ : ByteArray) = S at *
  clear hT
  by_cases hc : n = 1 ∧ r = 65533
  · obtain ⟨rfl, rfl⟩ := hc
    rw [if_pos ⟨rfl, rfl⟩]
    go_enter Tryz.func23, Tryz.ntmps23
    go_wp2_with fail
    refine HD.mono ?_
    rintro e w1 ⟨rfl, hb1⟩
    have HB1 := Hid.mk' hb1
    clear hb1
    go_wp2_with fail
    refine (HBL.out w1 HB1.out).mono ?_
    rintro e w2 ⟨rfl, hb2⟩
    have HB2 : Hid (Below w.heap.size w w2) := HB1.out.trans (hb2.mono HB1.out.size)
    clear hb2
    go_wp2
    go_ret2
    exact ⟨rfl, HB2.out⟩
  · rw [if_neg hc]
    by_cases hn : n = 1
    · have hr : ((r : Int) == 65533) = false := by rw [beq_eq_false_iff_ne]; omega
      subst hn
      go_enter Tryz.func23, Tryz.ntmps23
      go_wp2_with fail
      refine HD.mono ?_
      rintro e w1 ⟨rfl, hb1⟩
      have HB1 := Hid.mk' hb1
      clear hb1
      go_wp2
      go_ret2
      exact ⟨rfl, HB1.out⟩
    · have hr : ((n : Int) == 1) = false := by rw [beq_eq_false_iff_ne]; omega
      go_enter Tryz.func23, Tryz.ntmps23
      go_wp2_with fail
      refine HD.mono ?_
      rintro e w1 ⟨rfl, hb1⟩
      have HB1 := Hid.mk' hb1
      clear hb1
      go_wp2
      go_ret2
      exact ⟨rfl, HB1.out⟩
end Go.Proofs.YtneiiinheimglaaGreatDoor.U
namespace Go.Proofs.YtneiiinheimglaaGreatDoor.U
open Go.RowKit Go.Lib Go.Proofs.YtneiiinheimglaaGreatDoor

def icells (l : List Int) : List Value := l.map fun c => .int .i64 c
theorem icells_length (l : List Int) : (icells l).length = l.length := by simp [icells]
theorem icells_one (l : List Int) : ∀ u ∈ icells l, u.oneCell' = true := by
  intro u hu
  obtain ⟨c, _, rfl⟩ := List.mem_map.1 hu
  rfl
theorem infoInt : (Tryz.prog.info? 3).map (fun i => (i.zero, i.size, i.bytes)) = some (some (.int .i64 0), 1, 8) := by kernel_rfl
theorem keptBy {w w' : World} {base : Nat} {e : TypeId} {size : Nat} {v : Value} {n : Nat} {xs : List Value} (h : OwnR w base e size v n xs) (hb : Below w.heap.size w w') : OwnR w' base e size v n xs :=
  h.keptAt fun k hk => hb.block k (h.lt k hk).2
theorem bytes_append (a b : List UInt8) : (⟨a.toArray⟩ ++ ⟨b.toArray⟩ : ByteArray) = ⟨(a ++ b).toArray⟩ := by
  apply ByteArray.ext
  simp
def ints (l : List Nat) : List Int := l.map fun (c : Nat) => (c : Int)

def FState (w : World) (N : Nat) (R : List Int) (X : List UInt8) (g : Nat) (s1 s8 : Value) (wr : World) : Prop :=
  ∃ (L : List UInt8) (A : List Int), L.length ≤ g ∧ A.length + L.length ≤ N ∧ s1 = .string ⟨L.toArray⟩ ∧ OwnR wr w.heap.size 3 1 s8 A.length (icells A) ∧ Below w.heap.size w wr ∧ A ++ ints (rd L).2 = R ∧ (rd L).1 = X

theorem str_empty {L : List UInt8} (h : L ≠ []) : (⟨L.toArray⟩ : ByteArray).toList.isEmpty = false := by
  rw [Lib.toList_data]
  cases L with
  | nil => exact absurd rfl h
  | cons a L => rfl

set_option maxHeartbeats 8000000 in
set_option maxRecDepth 100000 in
theorem Feed_ok (p s : List UInt8) (w : World) (hT : Tabs w) (hp : p = [] ∨ beg p = true) (hl : p.length + s.length ≤ 1073741824) :
    Calls Tryz.prog 8 #[.string ⟨p.toArray⟩, .string ⟨s.toArray⟩] w fun e w' => ∃ v, e = .returned (.tuple #[.string ⟨(rd (p ++ s)).1.toArray⟩, v, .int .i64 0]) ∧ OwnR w' w.heap.size 3 1 v (ints (rd (p ++ s)).2).length (icells (ints (rd (p ++ s)).2)) ∧ Below w.heap.size w w' := by
  obtain ⟨i0, hi, hz0, hz1, hz2⟩ := info_parts infoInt
  have HC := Check_any p w hT
  rw [if_pos hp] at HC
  have hsp : (⟨p.toArray⟩ : ByteArray).size = p.length := by simp [ByteArray.size]
  have hss : (⟨s.toArray⟩ : ByteArray).size = s.length := by simp [ByteArray.size]
  have hap := bytes_append p s
  have HS : Hid (∀ w1, Below w.heap.size w w1 → FState w (p ++ s).length (ints (rd (p ++ s)).2) (rd (p ++ s)).1 (p ++ s).length (.string ⟨(p ++ s).toArray⟩) (.slice none 0 0) w1) := fun w1 hb =>
    ⟨p ++ s, [], Nat.le_refl _, by simp, rfl, OwnR.nil _ _ _ _, hb, by simp, rfl⟩
  have HI : Hid (∀ wr, Below w.heap.size w wr → ∀ L, Calls Tryz.prog 22 #[.string ⟨L.toArray⟩] wr fun e w' => e = .returned (.bool (beg L)) ∧ Below wr.heap.size wr w') := fun wr hb L => isBeg_any L wr (hT.below hb)
  have HF : Hid (∀ wr, Below w.heap.size w wr → ∀ L : List UInt8, L ≠ [] → L.length ≤ 1099511627776 → Calls Tryz.prog 23 #[.string ⟨L.toArray⟩] wr fun e w' => e = .returned (.tuple #[.int .i64 ((first L).1 : Int), .int .i64 ((first L).2 : Int)]) ∧ Below wr.heap.size wr w') := fun wr hb L h0 hl => first_any L wr (hT.below hb) h0 hl
  have hN : (p ++ s).length ≤ 1073741824 := by simpa using hl
  generalize ints (rd (p ++ s)).2 = R at *
  generalize (rd (p ++ s)).1 = X at *
  generalize (p ++ s).length = N at *
  generalize (⟨(p ++ s).toArray⟩ : ByteArray) = PS at *
  generalize (⟨p.toArray⟩ : ByteArray) = SP at *
  generalize (⟨s.toArray⟩ : ByteArray) = SS at *
  clear hT hp
  go_enter Tryz.func8, Tryz.ntmps8
  go_wp2_with fail
  refine HC.mono ?_
  rintro e w1 ⟨rfl, hb1⟩
  have HS1 := Hid.mk' (HS.out w1 hb1)
  clear hb1 HS HC
  go_wp2_with fail
  go_loopg [1, 8] N (fun g s1 s8 wr => FState w N R X g s1 s8 wr)
  case atStart => exact HS1.out
  case round =>
    obtain ⟨L, A, hg, hA, rfl, ho, hbl, hR, hX⟩ := hrel
    clear HS1
    have HR := Hid.mk' hR
    have HX := Hid.mk' hX
    have HB := Hid.mk' hbl
    have hswr := hbl.size
    clear hR hX hbl
    by_cases h0 : L = []
    · subst h0
      rw [rd_stop (.inl rfl)] at HR HX
      obtain rfl : A = R := by simpa [ints] using HR.out
      obtain rfl := HX.out
      have HO := Hid.mk' ho
      clear ho
      go_wp2
      exact bodyPost_ret (v := .tuple #[.string ⟨#[]⟩, u8, .int .i64 0]) (by simp [results, Tryz.results8, go_sem]) rfl ⟨_, rfl, HO.out, HB.out⟩
    have he := str_empty h0
    have hLs : (⟨L.toArray⟩ : ByteArray).size = L.length := by simp [ByteArray.size]
    have HK := Hid.mk' (HI.out wr HB.out L)
    cases hb : beg L with
    | true =>
      rw [hb] at HK
      rw [rd_stop (.inr hb)] at HR HX
      obtain rfl : A = R := by simpa [ints] using HR.out
      obtain rfl := HX.out
      have HO := Hid.mk' ho
      clear ho hb
      go_wp2_with fail
      refine HK.out.mono ?_
      rintro e w2 ⟨rfl, hb2⟩
      have HB2 : Hid (Below w.heap.size w w2) := HB.out.trans (hb2.mono hswr)
      have HO2 := Hid.mk' (keptBy HO.out hb2)
      clear hb2 HO
      go_wp2
      exact bodyPost_ret (v := .tuple #[.string ⟨L.toArray⟩, u8, .int .i64 0]) (by simp [results, Tryz.results8, go_sem]) rfl ⟨_, rfl, HO2.out, HB2.out⟩
    | false =>
      rw [hb] at HK
      have hst := rd_step h0 hb
      have hfl := first_le h0
      have hfp := first_pos L
      have xk := rest_list L (first L).2
      rw [hst] at HR HX
      have HF2 := Hid.mk' (fun w2 hb => HF.out w2 hb L h0 (by omega))
      have hdl : (L.drop (first L).2).length = L.length - (first L).2 := by simp
      have HRR : Hid ((A ++ [((first L).1 : Int)]) ++ ints (rd (L.drop (first L).2)).2 = R) := by
        have := HR.out
        show _ = _
        simpa [ints] using this
      clear hst hb HR
      generalize (first L).1 = r at *
      generalize (first L).2 = n at *
      generalize hLd : L.drop n = L2 at *
      have HS2 : Hid (∃ S2, S2 = (⟨L2.toArray⟩ : ByteArray)) := ⟨_, rfl⟩
      obtain ⟨S2, hS2⟩ := HS2.out
      rw [← hS2] at xk
      have HE2 := Hid.mk' hS2
      clear hS2 HS2
      have hnS : (n : Int) ≤ ((⟨L.toArray⟩ : ByteArray).size : Int) := by omega
      generalize (⟨L.toArray⟩ : ByteArray) = S at *
      go_wp2_with fail
      refine HK.out.mono ?_
      rintro e w2 ⟨rfl, hb2⟩
      have HB2 : Hid (Below w.heap.size w w2) := HB.out.trans (hb2.mono hswr)
      have ho2 := keptBy ho hb2
      have hs2 := hb2.size
      clear hb2 ho HK
      go_wp2_with fail
      refine (HF2.out w2 HB2.out).mono ?_
      rintro e w3 ⟨rfl, hb3⟩
      have HB3 : Hid (Below w.heap.size w w3) := HB2.out.trans (hb3.mono (by omega))
      have ho3 := keptBy ho2 hb3
      have hs3 := hb3.size
      clear hb3 ho2 HF2 HB2
      go_wp2_with (at_builtin; refine wpList_append_R _ rfl (.tmp 31) (.tmp 33) 22 rfl w.heap.size 3 i0 (.int .i64 0) 1 8 Tryz.underlying22 hi hz0 hz1 hz2 rfl (by decide) u8 A.length (icells A) rfl (ho3.keptAt fun k hk => Below.heap_alloc _ _ _ (ho3.lt k hk).2) ⟨w3.heap.size, 0, none⟩ 1 1 (icells [(r : Int)]) rfl rfl ?c1 (icells_one _) (by decide) ?c3 ?c4 ?c5 (w3.heap.size + 1) (by simp) ?_)
      case c1 => exact fun j u hu => World.news_of_block (by simpa using (MapKept.heap_alloc w3 _).1) j u hu
      case c3 => unfold maxLen; omega
      case c4 => omega
      case c5 => first | omega | (simp; omega)
      intro g1 cap1 w4 hown hgr hat hlt2
      have HO := Hid.mk' hown
      have HB4 : Hid (Below w.heap.size w w4) := (HB3.out.alloc (by omega) _).grown hgr (by simp; omega) (fun k hk => (ho3.lt k hk).1)
      clear hown hgr hat ho3
      go_wp2
      all_goals
        go_roundg L2.length
        case measure => omega
        case rel =>
          refine ⟨L2, A ++ [(r : Int)], Nat.le_refl _, by simp; omega, by rw [← hLs, xk, HE2.out], ?_, HB4.out, HRR.out, HX.out⟩
          have := HO.out
          simpa [icells] using this
set_option maxHeartbeats 4000000 in
theorem Feed_bad (p s : List UInt8) (w : World) (hT : Tabs w) (hp : ¬ (p = [] ∨ beg p = true)) :
    Calls Tryz.prog 8 #[.string ⟨p.toArray⟩, .string ⟨s.toArray⟩] w fun e w' => e = .returned (.tuple #[.string ⟨#[]⟩, .slice none 0 0, .int .i64 4]) ∧ Below w.heap.size w w' := by
  have HC := Check_any p w hT
  rw [if_neg hp] at HC
  generalize (⟨p.toArray⟩ : ByteArray) = SP at *
  generalize (⟨s.toArray⟩ : ByteArray) = SS at *
  clear hT hp
  go_enter Tryz.func8, Tryz.ntmps8
  go_wp2_with fail
  refine HC.mono ?_
  rintro e w1 ⟨rfl, hb1⟩
  have HB := Hid.mk' hb1
  clear hb1
  go_wp2
  exact bodyPost_ret (v := .tuple #[.string ⟨#[]⟩, .slice none 0 0, .int .i64 4]) (by simp [results, Tryz.results8, go_sem]) rfl ⟨rfl, HB.out⟩
end Go.Proofs.YtneiiinheimglaaGreatDoor.U
namespace Go.Proofs.YtneiiinheimglaaGreatDoor.B
open Go.Lib Go.Proofs.YtneiiinheimglaaGreatDoor Go.Proofs.YtneiiinheimglaaGreatDoor.Z

theorem areMid_iff (l : List UInt8) : areMid l 2 = true ↔ plainInter l := by
  unfold areMid plainInter
  rw [Bool.and_eq_true, decide_eq_true_eq, List.all_eq_true]
  constructor
  · rintro ⟨h1, h2⟩
    refine ⟨by omega, fun b hb => ?_⟩
    have := of_decide_eq_true (h2 b hb)
    unfold mid
    omega
  · rintro ⟨h1, h2⟩
    refine ⟨by omega, fun b hb => decide_eq_true ?_⟩
    have := h2 b hb
    unfold mid at this
    omega
theorem plB_iff (mk : Int) (ar : List Int) : plB mk ar = true ↔ mk = 0 ∧ ar = [] := by
  unfold plB
  rw [Bool.and_eq_true, beq_iff_eq, beq_iff_eq]
  constructor
  · rintro ⟨h1, h2⟩
    exact ⟨h1, List.length_eq_zero_iff.1 (by omega)⟩
  · rintro ⟨rfl, rfl⟩
    exact ⟨rfl, rfl⟩
theorem csiB_iff (cd mk : Int) (im : List UInt8) (ar : List Int) : csiB cd mk im ar = true ↔ (64 ≤ cd ∧ cd ≤ 126 ∧ (mk = 0 ∨ 60 ≤ mk ∧ mk ≤ 63) ∧ plainInter im ∧ Z.okL ar = true ∧ ar.length ≤ 32 ∧ (Z.text ar).length ≤ 100) := by
  unfold csiB writeT
  rw [Bool.and_eq_true, Bool.and_eq_true, Bool.and_eq_true, Bool.and_eq_true, Bool.or_eq_true, decide_eq_true_eq, decide_eq_true_eq, decide_eq_true_eq, decide_eq_true_eq, areMid_iff, beq_iff_eq]
  by_cases hk : okL ar = true
  · rw [if_pos hk]
    by_cases h32 : 32 < ar.length
    · rw [if_pos h32]
      constructor
      · rintro ⟨_, _, h, _⟩; exact absurd h (by decide)
      · rintro ⟨_, _, _, _, _, h, _⟩; omega
    · rw [if_neg h32]
      constructor
      · rintro ⟨h1, h2, _, h3, h4⟩; exact ⟨h2.1, h2.2, h1, h4, hk, by omega, h3⟩
      · rintro ⟨h1, h2, h3, h4, _, _, h5⟩; exact ⟨h3, ⟨h1, h2⟩, rfl, h5, h4⟩
  · rw [if_neg hk]
    constructor
    · rintro ⟨_, _, h, _⟩; exact absurd h (by decide)
    · rintro ⟨_, _, _, _, h, _⟩; exact absurd h hk
theorem txtB_iff (s : List UInt8) : txtB s = true ↔ (s.length ≤ 256 ∧ U.encAll (runesOf s) = s ∧ ∀ c ∈ runesOf s, canPrint c) := by
  unfold txtB
  rw [Bool.and_eq_true, Bool.and_eq_true, decide_eq_true_eq, valid_iff, List.all_eq_true, and_assoc]
  exact ⟨fun ⟨a, b, c⟩ => ⟨a, b, fun x hx => of_decide_eq_true (c x hx)⟩, fun ⟨a, b, c⟩ => ⟨a, b, fun x hx => decide_eq_true (c x hx)⟩⟩
theorem escB_iff (i : List UInt8) (c : Int) : escB i c = true ↔ (48 ≤ c ∧ c ≤ 126 ∧ plainInter i ∧ (i = [] → ¬ special c)) := by
  unfold escB
  rw [Bool.and_eq_true, Bool.and_eq_true, areMid_iff, decide_eq_true_eq, Bool.or_eq_true, Bool.not_eq_true', Bool.not_eq_true', decide_eq_false_iff_not]
  constructor
  · rintro ⟨⟨h1, h2, h3⟩, h4⟩
    refine ⟨h2, h3, h1, fun h => ?_⟩
    subst h
    rcases h4 with h4 | h4
    · cases h4
    · exact h4
  · rintro ⟨h1, h2, h3, h4⟩
    refine ⟨⟨h3, h1, h2⟩, ?_⟩
    cases i with
    | nil => exact .inr (h4 rfl)
    | cons b i => exact .inl rfl
theorem wB_iff (kd cd mk : Int) (im : List UInt8) (ar : List Int) (tx : List UInt8) : wB kd cd mk im ar tx = true ↔ wOk ⟨kd, cd, mk, im, ar, tx⟩ := by
  unfold wB wOk
  simp only [Ac.mk.injEq]
  by_cases k1 : kd = 1
  · subst k1
    rw [if_pos rfl, Bool.and_eq_true, Bool.and_eq_true, Bool.and_eq_true, plB_iff, List.isEmpty_iff, List.isEmpty_iff]
    unfold prB
    rw [decide_eq_true_eq]
    constructor
    · rintro ⟨⟨h1, h2⟩, ⟨h3, h4⟩, h5, h6⟩
      exact .inl ⟨⟨(by trivial), (by trivial), h3, h5, h4, h6⟩, h1, h2⟩
    · rintro (⟨⟨_, _, h3, h5, h4, h6⟩, h1, h2⟩ | ⟨⟨h, _⟩, _⟩ | ⟨⟨h, _⟩, _⟩ | ⟨⟨h, _⟩, _⟩ | ⟨⟨h, _⟩, _⟩)
      · exact ⟨⟨h1, h2⟩, ⟨h3, h4⟩, h5, h6⟩
      all_goals exact absurd h (by decide)
  rw [if_neg k1]
  by_cases k2 : kd = 2
  · subst k2
    rw [if_pos rfl, Bool.and_eq_true, Bool.and_eq_true, Bool.and_eq_true, plB_iff, List.isEmpty_iff, List.isEmpty_iff]
    unfold acB
    rw [decide_eq_true_eq]
    constructor
    · rintro ⟨h1, ⟨h3, h4⟩, h5, h6⟩
      exact .inr (.inl ⟨⟨(by trivial), (by trivial), h3, h5, h4, h6⟩, h1⟩)
    · rintro (⟨⟨h, _⟩, _⟩ | ⟨⟨_, _, h3, h5, h4, h6⟩, h1⟩ | ⟨⟨h, _⟩, _⟩ | ⟨⟨h, _⟩, _⟩ | ⟨⟨h, _⟩, _⟩)
      · exact absurd h (by decide)
      · exact ⟨h1, ⟨h3, h4⟩, h5, h6⟩
      all_goals exact absurd h (by decide)
  rw [if_neg k2]
  by_cases k3 : kd = 3
  · subst k3
    rw [if_pos rfl, Bool.and_eq_true, Bool.and_eq_true, escB_iff, plB_iff, List.isEmpty_iff]
    constructor
    · rintro ⟨h1, ⟨h3, h4⟩, h6⟩
      exact .inr (.inr (.inl ⟨⟨(by trivial), (by trivial), h3, (by trivial), h4, h6⟩, h1⟩))
    · rintro (⟨⟨h, _⟩, _⟩ | ⟨⟨h, _⟩, _⟩ | ⟨⟨_, _, h3, _, h4, h6⟩, h1⟩ | ⟨⟨h, _⟩, _⟩ | ⟨⟨h, _⟩, _⟩)
      · exact absurd h (by decide)
      · exact absurd h (by decide)
      · exact ⟨h1, ⟨h3, h4⟩, h6⟩
      all_goals exact absurd h (by decide)
  rw [if_neg k3]
  by_cases k4 : kd = 4
  · subst k4
    rw [if_pos rfl, Bool.and_eq_true, csiB_iff, List.isEmpty_iff]
    constructor
    · rintro ⟨h1, h6⟩
      exact .inr (.inr (.inr (.inl ⟨⟨(by trivial), (by trivial), (by trivial), (by trivial), (by trivial), h6⟩, h1⟩)))
    · rintro (⟨⟨h, _⟩, _⟩ | ⟨⟨h, _⟩, _⟩ | ⟨⟨h, _⟩, _⟩ | ⟨⟨_, _, _, _, _, h6⟩, h1⟩ | ⟨⟨h, _⟩, _⟩)
      · exact absurd h (by decide)
      · exact absurd h (by decide)
      · exact absurd h (by decide)
      · exact ⟨h1, h6⟩
      all_goals exact absurd h (by decide)
  rw [if_neg k4]
  by_cases k5 : kd = 5
  · subst k5
    rw [if_pos rfl, Bool.and_eq_true, Bool.and_eq_true, Bool.and_eq_true, txtB_iff, plB_iff, List.isEmpty_iff, beq_iff_eq]
    constructor
    · rintro ⟨h1, ⟨h3, h4⟩, h5, h6⟩
      exact .inr (.inr (.inr (.inr ⟨⟨(by trivial), h6, h3, h5, h4, (by trivial)⟩, h1⟩)))
    · rintro (⟨⟨h, _⟩, _⟩ | ⟨⟨h, _⟩, _⟩ | ⟨⟨h, _⟩, _⟩ | ⟨⟨h, _⟩, _⟩ | ⟨⟨_, h6, h3, h5, h4, _⟩, h1⟩)
      · exact absurd h (by decide)
      · exact absurd h (by decide)
      · exact absurd h (by decide)
      · exact absurd h (by decide)
      · exact ⟨h1, ⟨h3, h4⟩, h5, h6⟩
  rw [if_neg k5]
  constructor
  · intro h; cases h
  · rintro (⟨⟨h, _⟩, _⟩ | ⟨⟨h, _⟩, _⟩ | ⟨⟨h, _⟩, _⟩ | ⟨⟨h, _⟩, _⟩ | ⟨⟨h, _⟩, _⟩)
    · exact absurd h k1
    · exact absurd h k2
    · exact absurd h k3
    · exact absurd h k4
    · exact absurd h k5
theorem enc_byte (b : UInt8) (h : b.toNat < 128) : encodeRune (b.toNat : Int) = [b] := by
  unfold encodeRune
  rw [encodeRuneZ_one (by omega) (by omega)]
  simp
theorem encAll_asInts : ∀ l : List UInt8, (∀ b ∈ l, b.toNat < 128) → U.encAll (asInts l) = l
  | [], _ => rfl
  | b :: l, h => by
    show encodeRune (b.toNat : Int) ++ U.encAll (asInts l) = _
    rw [enc_byte b (h b (by simp)), encAll_asInts l (fun x hx => h x (by simp [hx]))]
    rfl
theorem encAll_app (a b : List Int) : U.encAll (a ++ b) = U.encAll a ++ U.encAll b := by unfold U.encAll; rw [List.map_append, List.flatten_append]
theorem encAll_one (c : Int) : U.encAll [c] = encodeRune c := by unfold U.encAll; simp
theorem mid_low {l : List UInt8} (h : plainInter l) : ∀ b ∈ l, b.toNat < 128 := fun b hb => by have := h.2 b hb; unfold mid at this; omega
theorem sgn_low {l : List UInt8} (h : Z.okS l = true) : ∀ b ∈ l, b.toNat < 128 := fun b hb => by
  unfold Z.okS at h
  have h2 := List.all_eq_true.1 h b hb
  rcases Z.okB_cases h2 with h3 | h3
  · rw [h3]; decide
  · have := Z.dig_iff.1 h3; omega
theorem asInts_rune {l : List UInt8} (h : ∀ b ∈ l, b.toNat < 128) : ∀ c ∈ asInts l, isR c := fun c hc => by
  unfold asInts at hc
  obtain ⟨b, hb, rfl⟩ := List.mem_map.1 hc
  have := h b hb
  unfold isR; omega
theorem runesOf_rune (s : List UInt8) : ∀ c ∈ runesOf s, isR c := fun c hc => by
  unfold runesOf at hc
  obtain ⟨r, hr, rfl⟩ := List.mem_map.1 hc
  have := U.rd_rune s.length s (Nat.le_refl _) r hr
  unfold U.isRune at this
  unfold isR; omega
theorem small_rune {c : Int} (h : 0 ≤ c ∧ c ≤ 127) : isR c := by unfold isR; omega
theorem wrT_enc {kd cd mk : Int} {im : List UInt8} {ar : List Int} {tx : List UInt8} (h : wOk ⟨kd, cd, mk, im, ar, tx⟩) : wrT kd cd mk im ar tx = U.encAll (wL ⟨kd, cd, mk, im, ar, tx⟩) ∧ (∀ c ∈ wL ⟨kd, cd, mk, im, ar, tx⟩, isR c) ∧ isR cd ∧ isR mk := by
  unfold wOk at h
  simp only [Ac.mk.injEq] at h
  rcases h with ⟨⟨rfl, _, rfl, rfl, rfl, rfl⟩, _, hr⟩ | ⟨⟨rfl, _, rfl, rfl, rfl, rfl⟩, h0, h1, _⟩ | ⟨⟨rfl, _, rfl, _, rfl, rfl⟩, h0, h1, hi, _⟩ | ⟨⟨rfl, _, _, _, _, rfl⟩, h0, h1, hm, hi, hk, h32, _⟩ | ⟨⟨rfl, rfl, rfl, rfl, rfl, _⟩, _, he, _⟩
  · exact ⟨(encAll_one cd).symm, (fun c hc => by rw [List.mem_singleton.1 hc]; exact hr), hr, small_rune (by decide)⟩
  · have h0 : 0 ≤ cd := h0
    have h1 : cd ≤ 31 := h1
    exact ⟨(encAll_one cd).symm, (fun c hc => by rw [List.mem_singleton.1 hc]; exact small_rune (c := cd) (by omega)), small_rune (by omega), small_rune (by decide)⟩
  · have hl := mid_low hi
    have hd : isR cd := small_rune (by omega)
    refine ⟨?_, ?_, hd, small_rune (by decide)⟩
    · show [27] ++ im ++ encodeRune cd = U.encAll ([27] ++ (asInts im ++ [cd]))
      rw [encAll_app, encAll_app, encAll_asInts im hl, encAll_one cd, List.append_assoc]
      rfl
    · intro c hc
      rcases List.mem_append.1 (show c ∈ [27] ++ (asInts im ++ [cd]) from hc) with hc | hc
      · rw [List.mem_singleton.1 hc]; exact small_rune (by decide)
      rcases List.mem_append.1 hc with hc | hc
      · exact asInts_rune hl c hc
      · rw [List.mem_singleton.1 hc]; exact hd
  · have hl := mid_low hi
    have hd : isR cd := small_rune (by omega)
    have hmr : isR mk := small_rune (by omega)
    have hw : (writeT ar).1 = Z.text ar := by unfold writeT; rw [if_pos hk, if_neg (by omega)]
    have hts : Z.okS (Z.text ar) = true := join_ok _ (fun x hx => by obtain ⟨n, _, rfl⟩ := List.mem_map.1 hx; exact word_ok n)
    have ht := sgn_low hts
    refine ⟨?_, ?_, hd, hmr⟩
    · show [27, 91] ++ (if mk = 0 then [] else encodeRune mk) ++ (writeT ar).1 ++ im ++ encodeRune cd = U.encAll ([27, 91] ++ ((if mk = 0 then [] else [mk]) ++ (asInts (Z.text ar) ++ (asInts im ++ [cd]))))
      rw [hw, encAll_app, encAll_app, encAll_app, encAll_app, encAll_asInts im hl, encAll_asInts _ ht, encAll_one cd]
      have e : U.encAll (if mk = 0 then [] else [mk]) = if mk = 0 then [] else encodeRune mk := by
        by_cases h0 : mk = 0
        · rw [if_pos h0, if_pos h0]; rfl
        · rw [if_neg h0, if_neg h0, encAll_one]
      rw [e]
      simp only [List.append_assoc]
      rfl
    · intro c hc
      rcases List.mem_append.1 (show c ∈ [27, 91] ++ ((if mk = 0 then [] else [mk]) ++ (asInts (Z.text ar) ++ (asInts im ++ [cd]))) from hc) with hc | hc
      · simp only [List.mem_cons, List.mem_nil_iff, or_false] at hc
        rcases hc with rfl | rfl <;> exact small_rune (by decide)
      rcases List.mem_append.1 hc with hc | hc
      · by_cases h0 : mk = 0
        · rw [if_pos h0] at hc; cases hc
        · rw [if_neg h0] at hc; rw [List.mem_singleton.1 hc]; exact hmr
      rcases List.mem_append.1 hc with hc | hc
      · exact asInts_rune ht c hc
      rcases List.mem_append.1 hc with hc | hc
      · exact asInts_rune hl c hc
      · rw [List.mem_singleton.1 hc]; exact hd
  · refine ⟨?_, ?_, small_rune (by decide), small_rune (by decide)⟩
    · show [27, 93] ++ tx ++ [7] = U.encAll ([27, 93] ++ (runesOf tx ++ [7]))
      rw [encAll_app, encAll_app, he, List.append_assoc]
      rfl
    · intro c hc
      rcases List.mem_append.1 (show c ∈ [27, 93] ++ (runesOf tx ++ [7]) from hc) with hc | hc
      · simp only [List.mem_cons, List.mem_nil_iff, or_false] at hc
        rcases hc with rfl | rfl <;> exact small_rune (by decide)
      rcases List.mem_append.1 hc with hc | hc
      · exact runesOf_rune tx c hc
      · rw [List.mem_singleton.1 hc]; exact small_rune (by decide)
theorem fix_ints : ∀ l : List Int, (∀ c ∈ l, isR c) → (l.map U.fixR).map (fun (r : Nat) => (r : Int)) = l
  | [], _ => rfl
  | c :: l, h => by
    have hc := h c (by simp)
    rw [List.map_cons, List.map_cons, fix_ints l (fun x hx => h x (by simp [hx]))]
    congr 1
    unfold isR at hc
    unfold U.fixR
    rw [if_pos (by omega)]
    omega
theorem wrT_rd {kd cd mk : Int} {im : List UInt8} {ar : List Int} {tx : List UInt8} (h : wOk ⟨kd, cd, mk, im, ar, tx⟩) : U.ints (U.rd (wrT kd cd mk im ar tx)).2 = wL ⟨kd, cd, mk, im, ar, tx⟩ := by
  obtain ⟨e, hr, _⟩ := wrT_enc h
  rw [e, U.rd_encAll]
  exact fix_ints _ hr
end Go.Proofs.YtneiiinheimglaaGreatDoor.B
