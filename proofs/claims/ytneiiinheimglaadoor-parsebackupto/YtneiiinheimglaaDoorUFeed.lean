/-
  Contract of utf.Feed: what is left and the runes are those of the plain reader `rd`; conditions: the two tables of unicode/utf8 hold what their initialisers lay; at most 1073741824 bytes.
-/
import Derived.Test.YtneiiinheimglaaDoorUDec
import Derived.OwnWalk
namespace Go.Proofs.YtneiiinheimglaaDoor.U
open Go.RowKit Go.Lib Go.Proofs.YtneiiinheimglaaDoor

def icells (l : List Int) : List Value := l.map fun c => .int .i64 c
theorem icells_length (l : List Int) : (icells l).length = l.length := by simp [icells]
theorem icells_one (l : List Int) : ∀ u ∈ icells l, u.oneCell' = true := by
  intro u hu
  obtain ⟨c, _, rfl⟩ := List.mem_map.1 hu
  rfl
theorem infoInt : (Tryd.prog.info? 3).map (fun i => (i.zero, i.size, i.bytes)) = some (some (.int .i64 0), 1, 8) := by kernel_rfl
theorem keptBy {w w' : World} {base : Nat} {e : TypeId} {size : Nat} {v : Value} {n : Nat} {xs : List Value} (h : OwnR w base e size v n xs) (hb : Below w.heap.size w w') : OwnR w' base e size v n xs :=
  h.keptAt fun k hk => hb.block k (h.lt k hk).2
theorem bytes_append (a b : List UInt8) : (⟨a.toArray⟩ ++ ⟨b.toArray⟩ : ByteArray) = ⟨(a ++ b).toArray⟩ := by
  apply ByteArray.ext
  simp
def ints (l : List Nat) : List Int := l.map fun (c : Nat) => (c : Int)

def FState (w : World) (N : Nat) (R : List Int) (X : List UInt8) (g : Nat) (s1 s8 : Value) (wr : World) : Prop :=
  ∃ (L : List UInt8) (A : List Int), L.length ≤ g ∧ A.length + L.length ≤ N ∧ s1 = .string ⟨L.toArray⟩ ∧ OwnR wr w.heap.size 3 1 s8 A.length (icells A) ∧ Below w.heap.size w wr ∧ A ++ ints (rd L).2 = R ∧ (rd L).1 = X

theorem str_empty {L : List UInt8} (h : L ≠ []) : (⟨L.toArray⟩ : ByteArray).toList.isEmpty = false := by
  rw [Lib.toList_data]
  cases L with
  | nil => exact absurd rfl h
  | cons a L => rfl

set_option maxHeartbeats 8000000 in
set_option maxRecDepth 100000 in
theorem Feed_ok (p s : List UInt8) (w : World) (hT : Tabs w) (hp : p = [] ∨ beg p = true) (hl : p.length + s.length ≤ 1073741824) :
    Calls Tryd.prog 19 #[.string ⟨p.toArray⟩, .string ⟨s.toArray⟩] w fun e w' => ∃ v, e = .returned (.tuple #[.string ⟨(rd (p ++ s)).1.toArray⟩, v, .int .i64 0]) ∧ OwnR w' w.heap.size 3 1 v (ints (rd (p ++ s)).2).length (icells (ints (rd (p ++ s)).2)) ∧ Below w.heap.size w w' := by
  obtain ⟨i0, hi, hz0, hz1, hz2⟩ := info_parts infoInt
  have HC := Check_any p w hT
  rw [if_pos hp] at HC
  have hsp : (⟨p.toArray⟩ : ByteArray).size = p.length := by simp [ByteArray.size]
  have hss : (⟨s.toArray⟩ : ByteArray).size = s.length := by simp [ByteArray.size]
  have hap := bytes_append p s
  have HS : Hid (∀ w1, Below w.heap.size w w1 → FState w (p ++ s).length (ints (rd (p ++ s)).2) (rd (p ++ s)).1 (p ++ s).length (.string ⟨(p ++ s).toArray⟩) (.slice none 0 0) w1) := fun w1 hb =>
    ⟨p ++ s, [], Nat.le_refl _, by simp, rfl, OwnR.nil _ _ _ _, hb, by simp, rfl⟩
  have HI : Hid (∀ wr, Below w.heap.size w wr → ∀ L, Calls Tryd.prog 42 #[.string ⟨L.toArray⟩] wr fun e w' => e = .returned (.bool (beg L)) ∧ Below wr.heap.size wr w') := fun wr hb L => isBeg_any L wr (hT.below hb)
  have HF : Hid (∀ wr, Below w.heap.size w wr → ∀ L : List UInt8, L ≠ [] → L.length ≤ 1099511627776 → Calls Tryd.prog 43 #[.string ⟨L.toArray⟩] wr fun e w' => e = .returned (.tuple #[.int .i64 ((first L).1 : Int), .int .i64 ((first L).2 : Int)]) ∧ Below wr.heap.size wr w') := fun wr hb L h0 hl => first_any L wr (hT.below hb) h0 hl
  have hN : (p ++ s).length ≤ 1073741824 := by simpa using hl
  generalize ints (rd (p ++ s)).2 = R at *
  generalize (rd (p ++ s)).1 = X at *
  generalize (p ++ s).length = N at *
  generalize (⟨(p ++ s).toArray⟩ : ByteArray) = PS at *
  generalize (⟨p.toArray⟩ : ByteArray) = SP at *
  generalize (⟨s.toArray⟩ : ByteArray) = SS at *
  clear hT hp
  go_enter Tryd.func19, Tryd.ntmps19
  go_wp2_with fail
  refine HC.mono ?_
  rintro e w1 ⟨rfl, hb1⟩
  have HS1 := Hid.mk' (HS.out w1 hb1)
  clear hb1 HS HC
  go_wp2_with fail
  go_loopg [1, 8] N (fun g s1 s8 wr => FState w N R X g s1 s8 wr)
  case atStart => exact HS1.out
  case round =>
    obtain ⟨L, A, hg, hA, rfl, ho, hbl, hR, hX⟩ := hrel
    clear HS1
    have HR := Hid.mk' hR
    have HX := Hid.mk' hX
    have HB := Hid.mk' hbl
    have hswr := hbl.size
    clear hR hX hbl
    by_cases h0 : L = []
    · subst h0
      rw [rd_stop (.inl rfl)] at HR HX
      obtain rfl : A = R := by simpa [ints] using HR.out
      obtain rfl := HX.out
      have HO := Hid.mk' ho
      clear ho
      go_wp2
      exact bodyPost_ret (v := .tuple #[.string ⟨#[]⟩, u8, .int .i64 0]) (by simp [results, Tryd.results19, go_sem]) rfl ⟨_, rfl, HO.out, HB.out⟩
    have he := str_empty h0
    have hLs : (⟨L.toArray⟩ : ByteArray).size = L.length := by simp [ByteArray.size]
    have HK := Hid.mk' (HI.out wr HB.out L)
    cases hb : beg L with
    | true =>
      rw [hb] at HK
      rw [rd_stop (.inr hb)] at HR HX
      obtain rfl : A = R := by simpa [ints] using HR.out
      obtain rfl := HX.out
      have HO := Hid.mk' ho
      clear ho hb
      go_wp2_with fail
      refine HK.out.mono ?_
      rintro e w2 ⟨rfl, hb2⟩
      have HB2 : Hid (Below w.heap.size w w2) := HB.out.trans (hb2.mono hswr)
      have HO2 := Hid.mk' (keptBy HO.out hb2)
      clear hb2 HO
      go_wp2
      exact bodyPost_ret (v := .tuple #[.string ⟨L.toArray⟩, u8, .int .i64 0]) (by simp [results, Tryd.results19, go_sem]) rfl ⟨_, rfl, HO2.out, HB2.out⟩
    | false =>
      rw [hb] at HK
      have hst := rd_step h0 hb
      have hfl := first_le h0
      have hfp := first_pos L
      have xk := rest_list L (first L).2
      rw [hst] at HR HX
      have HF2 := Hid.mk' (fun w2 hb => HF.out w2 hb L h0 (by omega))
      have hdl : (L.drop (first L).2).length = L.length - (first L).2 := by simp
      have HRR : Hid ((A ++ [((first L).1 : Int)]) ++ ints (rd (L.drop (first L).2)).2 = R) := by
        have := HR.out
        show _ = _
        simpa [ints] using this
      clear hst hb HR
      generalize (first L).1 = r at *
      generalize (first L).2 = n at *
      generalize hLd : L.drop n = L2 at *
      have HS2 : Hid (∃ S2, S2 = (⟨L2.toArray⟩ : ByteArray)) := ⟨_, rfl⟩
      obtain ⟨S2, hS2⟩ := HS2.out
      rw [← hS2] at xk
      have HE2 := Hid.mk' hS2
      clear hS2 HS2
      have hnS : (n : Int) ≤ ((⟨L.toArray⟩ : ByteArray).size : Int) := by omega
      generalize (⟨L.toArray⟩ : ByteArray) = S at *
      go_wp2_with fail
      refine HK.out.mono ?_
      rintro e w2 ⟨rfl, hb2⟩
      have HB2 : Hid (Below w.heap.size w w2) := HB.out.trans (hb2.mono hswr)
      have ho2 := keptBy ho hb2
      have hs2 := hb2.size
      clear hb2 ho HK
      go_wp2_with fail
      refine (HF2.out w2 HB2.out).mono ?_
      rintro e w3 ⟨rfl, hb3⟩
      have HB3 : Hid (Below w.heap.size w w3) := HB2.out.trans (hb3.mono (by omega))
      have ho3 := keptBy ho2 hb3
      have hs3 := hb3.size
      clear hb3 ho2 HF2 HB2
      go_wp2_with (at_builtin; refine wpList_append_R _ rfl (.tmp 31) (.tmp 33) 24 rfl w.heap.size 3 i0 (.int .i64 0) 1 8 Tryd.underlying24 hi hz0 hz1 hz2 rfl (by decide) u8 A.length (icells A) rfl (ho3.keptAt fun k hk => Below.heap_alloc _ _ _ (ho3.lt k hk).2) ⟨w3.heap.size, 0, none⟩ 1 1 (icells [(r : Int)]) rfl rfl ?c1 (icells_one _) (by decide) ?c3 ?c4 ?c5 (w3.heap.size + 1) (by simp) ?_)
      case c1 => exact fun j u hu => World.news_of_block (by simpa using (MapKept.heap_alloc w3 _).1) j u hu
      case c3 => unfold maxLen; omega
      case c4 => omega
      case c5 => first | omega | (simp; omega)
      intro g1 cap1 w4 hown hgr hat hlt2
      have HO := Hid.mk' hown
      have HB4 : Hid (Below w.heap.size w w4) := (HB3.out.alloc (by omega) _).grown hgr (by simp; omega) (fun k hk => (ho3.lt k hk).1)
      clear hown hgr hat ho3
      go_wp2
      all_goals
        go_roundg L2.length
        case measure => omega
        case rel =>
          refine ⟨L2, A ++ [(r : Int)], Nat.le_refl _, by simp; omega, by rw [← hLs, xk, HE2.out], ?_, HB4.out, HRR.out, HX.out⟩
          have := HO.out
          simpa [icells] using this
set_option maxHeartbeats 4000000 in
theorem Feed_bad (p s : List UInt8) (w : World) (hT : Tabs w) (hp : ¬ (p = [] ∨ beg p = true)) :
    Calls Tryd.prog 19 #[.string ⟨p.toArray⟩, .string ⟨s.toArray⟩] w fun e w' => e = .returned (.tuple #[.string ⟨#[]⟩, .slice none 0 0, .int .i64 4]) ∧ Below w.heap.size w w' := by
  have HC := Check_any p w hT
  rw [if_neg hp] at HC
  generalize (⟨p.toArray⟩ : ByteArray) = SP at *
  generalize (⟨s.toArray⟩ : ByteArray) = SS at *
  clear hT hp
  go_enter Tryd.func19, Tryd.ntmps19
  go_wp2_with fail
  refine HC.mono ?_
  rintro e w1 ⟨rfl, hb1⟩
  have HB := Hid.mk' hb1
  clear hb1
  go_wp2
  exact bodyPost_ret (v := .tuple #[.string ⟨#[]⟩, .slice none 0 0, .int .i64 4]) (by simp [results, Tryd.results19, go_sem]) rfl ⟨rfl, HB.out⟩
end Go.Proofs.YtneiiinheimglaaDoor.U
