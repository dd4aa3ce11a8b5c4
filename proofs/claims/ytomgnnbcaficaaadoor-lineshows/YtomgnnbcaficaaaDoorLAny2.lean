/-
  Contracts of strings.IndexAny and strings.ContainsAny at the signs 13, 10 and 8, whatever the bytes of the text; condition: a text of less than 4294967281 bytes.
-/
import Derived.Test.YtomgnnbcaficaaaDoorLAny
import Derived.Lib.OthersKept
import Derived.Lib.IndexAny
namespace Go.Proofs.YtomgnnbcaficaaaDoor.L
open Go.RowKit Go.Lib Go.Proofs.YtomgnnbcaficaaaDoor Go.Proofs.YtomgnnbcaficaaaDoor.W Go.Proofs.YtomgnnbcaficaaaDoor.Q

/-- the bytes of a rune behind its first one are above 127 -/
theorem decode_skip (s : ByteArray) (i j : Nat) (h1 : i < j) (h2 : j < i + (Utf8.decode s i).2) : ∃ h : j < s.size, 128 ≤ (s[j]'h).toNat := by
  have key : ∀ k, (decide (i + k < s.size) && (s.get! (i + k)).toNat / 64 == 2) = true → ∃ h : i + k < s.size, 128 ≤ (s[i + k]'h).toNat := fun k hk => by
    rw [Bool.and_eq_true] at hk
    have hk1 := of_decide_eq_true hk.1
    have hk2 := beq_iff_eq.1 hk.2
    refine ⟨hk1, ?_⟩
    have e := get_at s (i + k) hk1
    rw [Nat.add_zero] at e
    rw [e] at hk2
    omega
  have one : j < i + 1 → ∃ h : j < s.size, 128 ≤ (s[j]'h).toNat := fun h => absurd h (by omega)
  unfold Utf8.decode at h2
  dsimp only at h2
  split at h2
  · exact one h2
  split at h2
  · rename_i c
    rw [Bool.and_eq_true] at c
    split at h2
    · obtain rfl : j = i + 1 := by dsimp only at h2; omega
      exact key 1 c.2
    · exact one h2
  split at h2
  · rename_i c
    rw [Bool.and_eq_true, Bool.and_eq_true] at c
    split at h2
    · have hj : j = i + 1 ∨ j = i + 2 := by dsimp only at h2; omega
      rcases hj with rfl | rfl
      · exact key 1 c.1.2
      · exact key 2 c.2
    · exact one h2
  split at h2
  · rename_i c
    rw [Bool.and_eq_true, Bool.and_eq_true, Bool.and_eq_true] at c
    split at h2
    · have hj : j = i + 1 ∨ j = i + 2 ∨ j = i + 3 := by dsimp only at h2; omega
      rcases hj with rfl | rfl | rfl
      · exact key 1 c.1.1.2
      · exact key 2 c.1.2
      · exact key 3 c.2
    · exact one h2
  · exact one h2

def RI (w : World) (T : List UInt8) (g : Nat) (wx : World) : Prop :=
  ∃ i : Nat, T.length - i ≤ g ∧ Hid (wx.heap[w.heap.size]? = some (.stringIter (bs T) i)) ∧ Hid (Below w.heap.size w wx) ∧ Hid (NoAny T [13, 10, 8] i)

set_option maxHeartbeats 8000000 in
set_option maxRecDepth 1000000 in
theorem IndexAny_short (T : List UInt8) (w : World) (h8 : T.length ≤ 8) :
    Calls Tryd.prog 34 #[.string (bs T), .string ⟨#[13, 10, 8]⟩] w fun e w' => ∃ n : Int, e = .returned (.int .i64 n) ∧ (NoAny T [13, 10, 8] T.length ∧ n = -1 ∨ 0 ≤ n) ∧ Below w.heap.size w w' := by
  have hz := bs_size T
  have HG : Hid (∀ n (h : n < T.length) (h2 : n < (bs T).size), (bs T)[n]'h2 = T[n]'h) := fun n h h2 => bs_get T n h h2
  have h8z : ¬ (8 : Int) < ((bs T).size : Int) := by omega
  have HI0 : Hid (RI w T T.length (w.iter (bs T) 0)) := ⟨0, by omega, World.iter_heap _ _ _, below_iter _ _ _, NoAny.zero _ _⟩
  have HIA := Hid.mk' (fun r W h0 h1 => Tryd.strings_IndexRune_ascii ⟨#[13, 10, 8]⟩ r W h0 h1)
  have HIH := Hid.mk' (fun r W h0 h1 => IndexRune_high r W h0 h1)
  have HNX := Hid.mk' (fun W k pos ty => run_next_any_at (P := Tryd.prog) W k (bs T) pos ty)
  have HNE := Hid.mk' (fun W k pos ty => run_next_end_at (P := Tryd.prog) W k (bs T) pos ty)
  have HDS := Hid.mk' (fun i j => decode_skip (bs T) i j)
  have HDH := Hid.mk' (fun i => decode_high (bs T) i)
  have HDL := Hid.mk' (fun i => decode_le (bs T) i)
  have HDA := Hid.mk' (fun i => decode_ascii (bs T) i)
  have HSS : Hid (∀ (W : World) (n : Int), Calls Tryd.prog 51 #[.int .i64 n] W fun e w' => e = .returned (.bool (decide (8 < n))) ∧ w' = W) := fun W n => by
    go_enter Tryd.func51, Tryd.ntmps51
    go_wp2
    go_ret
    exact ⟨rfl, rfl⟩
  have hem : (⟨#[13, 10, 8]⟩ : ByteArray).toList.isEmpty = false := by rw [ByteArray.toList_eq]; rfl
  have hem2 : ((⟨#[13, 10, 8]⟩ : ByteArray).toList == []) = false := by rw [ByteArray.toList_eq]; rfl
  have hzc : (⟨#[13, 10, 8]⟩ : ByteArray).size = 3 := rfl
  generalize hCH : (⟨#[13, 10, 8]⟩ : ByteArray) = CH at *
  have HCH := Hid.mk' hCH
  clear hCH
  go_enter Tryd.func34, Tryd.ntmps34
  go_wp2_with fail
  refine (HSS.out _ _).mono ?_
  rintro e w1 ⟨rfl, rfl⟩
  go_wp2_with fail
  clear HSS
  go_loopg [9, 10] T.length (fun g _ _ wx => RI w1 T g wx)
  case atStart => exact HI0.out
  case round =>
    obtain ⟨i, hg, HIT, HB, HN⟩ := hrel
    have HGK := Hid.mk' hg
    clear hg HI0
    by_cases hlt : i < T.length
    · have hlt2 : i < (bs T).size := by omega
      have hgt := HG.out i hlt hlt2
      have hnx := fun ty => HNX.out wr w1.heap.size i ty HIT.out hlt2
      have HX : Hid (T[i]? = some T[i]) := List.getElem?_eq_getElem hlt
      by_cases ha : (T[i]).toNat < 128
      · have hde := HDA.out i hlt2 (hgt.symm ▸ ha)
        rw [hgt] at hde
        rw [hde] at hnx
        have HB2 : Hid (Below w1.heap.size w1 (wr.iterAt w1.heap.size (bs T) (i + 1))) := below_iterAt HB.out (Nat.le_refl _) _ _
        have HIT2 : Hid ((wr.iterAt w1.heap.size (bs T) (i + 1)).heap[w1.heap.size]? = some (.stringIter (bs T) (i + 1))) := iterAt_heap _ _ _ _ _ HIT.out
        have HK := Hid.mk' (HIA.out (T[i].toNat : Int) (wr.iterAt w1.heap.size (bs T) (i + 1)) (by omega) (by omega))
        have hback : ((T[i].toNat : Int)).toNat.toUInt8 = T[i] := by simp
        rw [hback] at HK
        have hcon := Lib.contains_iff_indexByte [13, 10, 8] T[i]
        have hcd : CH.data.toList = [13, 10, 8] := by rw [← HCH.out]
        rw [hcd] at HK
        have hib : -1 ≤ Lib.indexByte [13, 10, 8] T[i] := Lib.indexByte_ge _ _
        dsimp only at hnx
        clear HDA HDS HDH HDL HIH HNX hgt hback hde HG
        generalize hx : T[i] = x at *
        clear hx
        generalize wr.iterAt w1.heap.size (bs T) (i + 1) = w2 at *
        cases hin : [13, 10, 8].contains x with
        | false =>
          rw [hin] at hcon
          have hlt0 := of_decide_eq_false hcon.symm
          have HN2 : Hid (RI w1 T (T.length - (i + 1)) w2) := ⟨i + 1, Nat.le_refl _, HIT2, HB2, HN.out.succ HX.out hin⟩
          clear hcon hin HN HX HIT HB HIT2 HB2 HIA HNE
          generalize Lib.indexByte [13, 10, 8] x = q at *
          go_wp2_with fail
          refine HK.out.mono ?_
          rintro e w3 ⟨rfl, rfl⟩
          go_wp2
          go_roundg (T.length - (i + 1))
          case measure => have := HGK.out; omega
          case rel => exact HN2.out
        | true =>
          rw [hin] at hcon
          have hge0 := of_decide_eq_true hcon.symm
          clear hcon hin HN HX HIT HB HIT2 HIA HNE
          generalize Lib.indexByte [13, 10, 8] x = q at *
          go_wp2_with fail
          refine HK.out.mono ?_
          rintro e w3 ⟨rfl, rfl⟩
          go_wp2
          go_ret
          exact ⟨_, rfl, .inr (by omega), HB2.out⟩
      · have hdh := HDH.out i hlt2 (by rw [hgt]; omega)
        have hdl := HDL.out i
        have hds := HDS.out i
        have hno : [13, 10, 8].contains T[i] = false := by
          cases h : [13, 10, 8].contains T[i] with
          | false => rfl
          | true =>
            have : T[i] = 13 ∨ T[i] = 10 ∨ T[i] = 8 := by simpa using h
            rcases this with e | e | e <;> rw [e] at ha <;> exact absurd (by decide) ha
        have HN3 : Hid (NoAny T [13, 10, 8] (i + (Utf8.decode (bs T) i).2)) := fun j b hj hb => by
          by_cases h1 : j < i
          · exact HN.out j b h1 hb
          by_cases h2 : j = i
          · subst h2; rw [HX.out] at hb; cases hb; exact hno
          · obtain ⟨h3, h4⟩ := hds j (by omega) hj
            have h5 : j < T.length := by rw [bs_size] at h3; exact h3
            have e : (bs T)[j]'h3 = T[j] := bs_get T j h5 h3
            rw [List.getElem?_eq_getElem h5] at hb
            cases hb
            rw [e] at h4
            cases h : [13, 10, 8].contains T[j] with
            | false => rfl
            | true =>
              have : T[j] = 13 ∨ T[j] = 10 ∨ T[j] = 8 := by simpa using h
              rcases this with e | e | e <;> rw [e] at h4 <;> exact absurd h4 (by decide)
        generalize hd : Utf8.decode (bs T) i = D at *
        clear hd
        obtain ⟨r, k⟩ := D
        dsimp only at hnx hdh hdl HN3
        have HB2 : Hid (Below w1.heap.size w1 (wr.iterAt w1.heap.size (bs T) (i + k))) := below_iterAt HB.out (Nat.le_refl _) _ _
        have HIT2 : Hid ((wr.iterAt w1.heap.size (bs T) (i + k)).heap[w1.heap.size]? = some (.stringIter (bs T) (i + k))) := iterAt_heap _ _ _ _ _ HIT.out
        have HK := Hid.mk' (HIH.out r (wr.iterAt w1.heap.size (bs T) (i + k)) hdh.1 hdl)
        have hk1 := Hid.mk' hdh.2
        clear HDA HDS HDH HDL HIH HNX hgt HG hds hno HN HX HIT HB HIA HNE hdh hdl
        generalize wr.iterAt w1.heap.size (bs T) (i + k) = w2 at *
        have HN2 : Hid (∀ w3, Below w2.heap.size w2 w3 → RI w1 T (T.length - (i + k)) w3) := fun w3 h3 => ⟨i + k, Nat.le_refl _, by
          rw [Hid, h3.block _ (by have := (Array.getElem?_eq_some_iff.1 HIT2.out).1; exact this)]; exact HIT2.out, HB2.out.trans (Below.mono h3 HB2.out.size), HN3⟩
        go_wp2_with fail
        refine HK.out.mono ?_
        rintro e w3 ⟨rfl, b3⟩
        have HN4 := Hid.mk' (HN2.out w3 b3)
        clear b3 HN2
        go_wp2
        go_roundg (T.length - (i + k))
        case measure => have := HGK.out; have := hk1.out; omega
        case rel => exact HN4.out
    · have hnx := fun ty => HNE.out wr w1.heap.size i ty HIT.out (by omega)
      have HF : Hid (NoAny T [13, 10, 8] T.length) := fun j b hj hb => HN.out j b (by omega) hb
      clear HDA HDS HDH HDL HIH HNX HG HIA HNE HN HIT
      go_wp2
      go_ret
      exact ⟨_, rfl, .inl ⟨HF.out, rfl⟩, HB.out⟩

theorem IndexAny_any (T : List UInt8) (w : World) (hs : T.length < 4294967281) :
    Calls Tryd.prog 34 #[.string (bs T), .string ⟨#[13, 10, 8]⟩] w fun e w' => ∃ n : Int, e = .returned (.int .i64 n) ∧ (NoAny T [13, 10, 8] T.length ∧ n = -1 ∨ 0 ≤ n) ∧ Below w.heap.size w w' := by
  by_cases h8 : T.length ≤ 8
  · exact IndexAny_short T w h8
  · refine (Tryd.strings_IndexAny_long (zero_of_info (n := 256) (by kernel_rfl)).1 (bs T) ⟨#[13, 10, 8]⟩ w (by decide) (by rw [bs_size]; omega) (by rw [bs_size]; exact hs) (by decide) (fun j b hj => ?_)).mono ?_
    · have : b ∈ ([13, 10, 8] : List UInt8) := List.mem_of_getElem? hj
      simp only [List.mem_cons, List.not_mem_nil, or_false] at this
      rcases this with rfl | rfl | rfl <;> decide
    · rintro e w' ⟨rfl, rfl⟩
      refine ⟨_, rfl, ?_, ((Below.refl _ _).alloc (Nat.le_refl _) _).alloc (by simp) _⟩
      show NoAny T [13, 10, 8] T.length ∧ Lib.indexAny T [13, 10, 8] = -1 ∨ 0 ≤ Lib.indexAny T [13, 10, 8]
      have hge := Lib.indexAny_ge [13, 10, 8] T
      by_cases h : NoAny T [13, 10, 8] T.length
      · exact .inl ⟨h, Lib.indexAny_none h⟩
      · right
        suffices h2 : Lib.indexAny T [13, 10, 8] ≠ -1 by omega
        intro e
        apply h
        clear h hge hs h8
        induction T with
        | nil => intro j b hj; simp at hj
        | cons x l ih =>
          rw [Lib.indexAny] at e
          split at e
          · cases e
          · rename_i hx
            split at e
            · rename_i hl
              have ih2 := ih (beq_iff_eq.1 hl)
              intro j b hj hb
              cases j with
              | zero =>
                simp only [List.getElem?_cons_zero, Option.some.injEq] at hb
                subst hb
                exact Bool.eq_false_iff.2 hx
              | succ j => exact ih2 j b (by simpa using hj) (by simpa using hb)
            · rename_i hl
              have := Lib.indexAny_ge [13, 10, 8] l
              omega
set_option maxHeartbeats 1000000 in
theorem ContainsAny_any (T : List UInt8) (w : World) (hs : T.length < 4294967281) :
    Calls Tryd.prog 25 #[.string (bs T), .string ⟨#[13, 10, 8]⟩] w fun e w' => ∃ b : Bool, e = .returned (.bool b) ∧ (b = false → clean T) ∧ Below w.heap.size w w' := by
  have HI := Hid.mk' (IndexAny_any T w hs)
  have HC : Hid (NoAny T [13, 10, 8] T.length → clean T) := fun h x hx => by
    obtain ⟨j, hj, rfl⟩ := List.mem_iff_getElem.1 hx
    have := h j _ hj (List.getElem?_eq_getElem hj)
    simp only [List.contains_eq_mem, List.mem_cons, List.not_mem_nil, or_false, decide_eq_false_iff_not, not_or] at this
    exact ⟨this.2.2, this.2.1, this.1⟩
  generalize bs T = S at *
  generalize (⟨#[13, 10, 8]⟩ : ByteArray) = CH at *
  go_enter Tryd.func25, Tryd.ntmps25
  go_wp2_with fail
  refine HI.out.mono ?_
  rintro e w1 ⟨n, rfl, hn, b1⟩
  have HB := Hid.mk' b1
  have HN := Hid.mk' hn
  clear b1 hn
  go_wp2
  go_ret
  refine ⟨_, rfl, fun h => HC.out ?_, HB.out⟩
  rcases HN.out with h2 | h2
  · exact h2.1
  · exact absurd h2 (of_decide_eq_false h)
end Go.Proofs.YtomgnnbcaficaaaDoor.L
