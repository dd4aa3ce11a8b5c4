/-
  Contract of farref.Stream: a stream's tokens and how many bytes they have; conditions: at most 8000000 bytes.
-/
import Derived.Test.YtmcoliblkkploaaDoorTkn
namespace Go.Proofs.YtmcoliblkkploaaDoor
open Go.RowKit

theorem rest_list (L : List UInt8) (k : Nat) : (⟨L.toArray⟩ : ByteArray).extract k (⟨L.toArray⟩ : ByteArray).size = ⟨(L.drop k).toArray⟩ := by
  apply ByteArray.ext
  rw [ByteArray.data_extract]
  apply Array.toList_inj.1
  simp only [Array.toList_extract, List.extract_eq_take_drop]
  have : (⟨L.toArray⟩ : ByteArray).size = L.length := by simp [ByteArray.size]
  rw [this, List.take_of_length_le (by simp)]

def SState (w : World) (L : List UInt8) (T : List Tk) (n : Nat) (g : Nat) (s4 s5 : Value) (wr : World) : Prop :=
  ∃ (k f : Nat) (A : List Tk), k ≤ L.length ∧ L.length - k < f ∧ L.length - k ≤ g ∧ s5 = .int .i64 (k : Int) ∧ OwnR wr w.heap.size 34 4 s4 A.length (tsCells A) ∧ Below w.heap.size w wr ∧ A ++ (stream f (L.drop k)).1 = T ∧ k + (stream f (L.drop k)).2.1 = n ∧ A.length ≤ k

set_option maxHeartbeats 8000000 in
set_option maxRecDepth 100000 in
theorem Stream_any (L : List UInt8) (w : World) (hl : L.length ≤ 8000000) :
    Calls Tryd.prog 12 #[.string ⟨L.toArray⟩] w fun e w' => ∃ v, e = .returned (.tuple #[v, .int .i64 ((stream (L.length + 1) L).2.1 : Int)]) ∧ OwnR w' w.heap.size 34 4 v (stream (L.length + 1) L).1.length (tsCells (stream (L.length + 1) L).1) ∧ Below w.heap.size w w' := by
  obtain ⟨i0, hi, hz0, hz1, hz2⟩ := info_parts Tryd.infoTok
  have HS : Hid (SState w L (stream (L.length + 1) L).1 (stream (L.length + 1) L).2.1 L.length (.slice none 0 0) (.int .i64 0) w) :=
    ⟨0, L.length + 1, [], Nat.zero_le _, by omega, by omega, rfl, OwnR.nil _ _ _ _, Below.refl _ _, by simp, by simp, by simp⟩
  generalize (stream (L.length + 1) L).1 = T at *
  generalize (stream (L.length + 1) L).2.1 = n at *
  have hsz : (⟨L.toArray⟩ : ByteArray).size = L.length := by simp [ByteArray.size]
  have HX := Hid.mk' (rest_list L)
  generalize (⟨L.toArray⟩ : ByteArray) = S at *
  have hs8 : S.size ≤ 8000000 := by omega
  go_enter Tryd.func12, Tryd.ntmps12
  go_wp2_with fail
  go_loopg [4, 5] L.length (fun g s4 s5 wr => SState w L T n g s4 s5 wr)
  case atStart => exact HS.out
  case round =>
    obtain ⟨k, f, A, hkl, hf, hg, rfl, ho, hbl, hT, hN, hA⟩ := hrel
    clear HS
    have HTT := Hid.mk' hT
    have HNN := Hid.mk' hN
    have HB := Hid.mk' hbl
    have hswr := hbl.size
    clear hT hN hbl
    by_cases hlt : k < L.length
    · have hks : (k : Int) < (S.size : Int) := by omega
      have xk := HX.out k
      rw [hsz] at xk
      have hdl : (L.drop k).length = L.length - k := by simp
      have hne : L.drop k ≠ [] := fun e => by rw [e] at hdl; simp at hdl; omega
      have HK := Hid.mk' (token_any (L.drop k) (by omega) hne)
      generalize (⟨(L.drop k).toArray⟩ : ByteArray) = R at xk HK
      obtain ⟨f', rfl⟩ : ∃ f', f = f' + 1 := ⟨f - 1, by omega⟩
      cases ht : token (L.drop k) with
      | inl x =>
        rw [ht] at HK
        have est : stream (f' + 1) (L.drop k) = ([], 0, x) := by rw [stream, ht]
        rw [est] at HTT HNN
        simp only [List.append_nil, Nat.add_zero] at HTT HNN
        obtain rfl := HTT.out
        obtain rfl := HNN.out
        simp only [tokenOf, zeroT, TokSaid, Tk.val] at HK
        have HO := Hid.mk' ho
        clear ho est ht hne hdl
        go_wp2_with fail
        refine (HK.out _).mono ?_
        rintro e w1 ⟨rfl, hb1⟩
        have HB1 : Hid (∀ o, Below w.heap.size w (w1.alloc o)) := fun o => (HB.out.trans (hb1.mono hswr)).alloc (by have := hb1.size; omega) o
        have HO1 : Hid (∀ o, OwnR (w1.alloc o) w.heap.size 34 4 u4 A.length (tsCells A)) := fun o => (HO.out.keptBy hb1).keptAt fun k hk => Below.heap_alloc _ _ _ ((HO.out.keptBy hb1).lt k hk).2
        clear hb1
        go_wp2
        go_ret2
        exact ⟨_, rfl, HO1.out _, HB1.out _⟩
      | inr p =>
        obtain ⟨t, q⟩ := p
        rw [ht] at HK
        have est : stream (f' + 1) (L.drop k) = (t :: (stream f' ((L.drop k).drop q)).1, q + (stream f' ((L.drop k).drop q)).2.1, (stream f' ((L.drop k).drop q)).2.2) := by rw [stream, ht]
        rw [est, List.drop_drop] at HTT HNN
        obtain ⟨hq0, hq1, _, _⟩ := token_out (L.drop k) [] [] t q ht
        rw [hdl] at hq1
        have HEST : Hid (A ++ t :: (stream f' (L.drop (k + q))).1 = T ∧ k + (q + (stream f' (L.drop (k + q))).2.1) = n) := ⟨HTT.out, HNN.out⟩
        have hqq : ((q : Int) == 0) = false := by simp; omega
        clear est ht hne hdl HTT HNN
        obtain ⟨kd, cm, op, dt⟩ := t
        simp only [tokenOf, TokSaid, Tk.val] at HK
        go_wp2_with fail
        refine (HK.out _).mono ?_
        rintro e w1 ⟨rfl, hb1⟩
        have hs1 := hb1.size
        have HB1 : Hid (Below w.heap.size w w1) := HB.out.trans (hb1.mono hswr)
        have ho1 := ho.keptBy hb1
        clear hb1 ho
        go_wp2_with (at_builtin; refine wpList_append_R _ rfl (.tmp 21) (.tmp 23) 24 rfl w.heap.size 34 i0 (.agg #[.int .i64 0, .int .i64 0, .int .i64 0, .string ⟨#[]⟩]) 4 40 Tryd.underlying24 hi hz0 hz1 hz2 rfl (by decide) u4 A.length (tsCells A) rfl (ho1.keptAt fun k hk => (Below.heap_alloc _ _ _ (by have := (ho1.lt k hk).2; simp; omega)).trans (Below.heap_alloc _ _ _ (ho1.lt k hk).2)) ⟨w1.heap.size + 1, 0, none⟩ 1 1 (tcells ⟨kd, cm, op, dt⟩) rfl rfl ?c1 (tcells_one _) (by decide) ?c3 ?c4 ?c5 (w1.heap.size + 1 + 1) (by simp) ?_)
        case c1 => exact fun j u hu => World.news_of_block (by simpa using (MapKept.heap_alloc (w1.alloc (.cells #[.int .i64 kd, .int .i64 cm, .int .i64 op, .string ⟨dt.toArray⟩] 34)) _).1) j u hu
        case c3 => unfold maxLen; omega
        case c4 => omega
        case c5 => first | omega | (simp; omega)
        intro g1 cap1 w2 hown hgr hat hlt2
        have HO := Hid.mk' hown
        have HBB : Hid (Below w.heap.size w w2) := ((HB1.out.alloc (by omega) _).alloc (by simp; omega) _).grown hgr (by simp; omega) (fun k hk => (ho1.lt k hk).1)
        clear hown hgr hat
        go_wp2
        all_goals
          go_roundg (L.length - (k + q))
          case measure => omega
          case rel =>
            refine ⟨k + q, f', A ++ [⟨kd, cm, op, dt⟩], by omega, by omega, Nat.le_refl _, by go_num, ?_, HBB.out, ?_, ?_, by simp; omega⟩
            · have := HO.out
              simpa [tsCells_snoc] using this
            · have := HEST.out.1
              simpa using this
            · have := HEST.out.2
              omega
    · have hkk : k = L.length := by omega
      subst hkk
      obtain ⟨f', rfl⟩ : ∃ f', f = f' + 1 := ⟨f - 1, by omega⟩
      have est : stream (f' + 1) (L.drop L.length) = ([], 0, zeroW) := by rw [List.drop_length, stream]; rfl
      rw [est] at HTT HNN
      simp only [List.append_nil, Nat.add_zero] at HTT HNN
      obtain rfl := HTT.out
      obtain rfl := HNN.out
      have HO := Hid.mk' ho
      have hnk : ¬ (L.length : Int) < (S.size : Int) := by omega
      clear ho est
      go_wp2
      go_ret2
      exact ⟨_, rfl, HO.out, HB.out⟩
end Go.Proofs.YtmcoliblkkploaaDoor
