/-
  Contracts of parse.Check and what it calls; conditions: texts of at most 2^40 bytes.
-/
import Derived.Test.YtneiiinheimglaaDoorBText
namespace Go.Proofs.YtneiiinheimglaaDoor.B
open Go.RowKit Go.Lib Go.Proofs.YtneiiinheimglaaDoor Go.Proofs.YtneiiinheimglaaDoor.W Go.Proofs.YtneiiinheimglaaDoor.Q Go.Proofs.YtneiiinheimglaaDoor.C Go.Proofs.YtneiiinheimglaaDoor.Z

def okMark (st mk : Int) : Bool := decide (mk = 0) || (decide (st = 4 ∨ st = 5) && (decide (60 ≤ mk) && decide (mk ≤ 63)))
def areMid (l : List UInt8) (n : Int) : Bool := decide ((l.length : Int) ≤ n) && l.all fun b => decide (32 ≤ (b.toNat : Int) ∧ (b.toNat : Int) ≤ 47)
def okInter (st : Int) (im : List UInt8) : Bool := if st = 2 ∨ st = 5 then !im.isEmpty && areMid im 3 else im.isEmpty
def okArgs (st : Int) (ar : List UInt8) : Bool := if st = 4 ∨ st = 5 then okS ar && decide (ar.length ≤ 100) else ar.isEmpty
def okText (st : Int) (tx : List UInt8) : Bool := if st = 7 ∨ st = 8 then decide (tx.length ≤ 256) else tx.isEmpty
def okP (st mk : Int) (im ar tx : List UInt8) : Bool := decide (0 ≤ st ∧ st ≤ 10) && okMark st mk && okInter st im && okArgs st ar && okText st tx
theorem okP_right {st mk : Int} {im ar tx : List UInt8} (h : okP st mk im ar tx = true) : ∃ n : Nat, st = (n : Int) ∧ right ⟨n, mk, im, ar, tx⟩ := by
  unfold okP okMark okInter okArgs okText areMid at h
  simp only [Bool.and_eq_true, Bool.or_eq_true, decide_eq_true_eq] at h
  obtain ⟨⟨⟨⟨h1, h2⟩, h3⟩, h4⟩, h5⟩ := h
  refine ⟨st.toNat, by omega, ?_⟩
  have e : (st.toNat : Int) = st := by omega
  have hI : (im = [] ∧ ¬ (st = 2 ∨ st = 5)) ∨ (im ≠ [] ∧ (st = 2 ∨ st = 5) ∧ im.length ≤ 3 ∧ ∀ b ∈ im, mid b) := by
    by_cases hs : st = 2 ∨ st = 5
    · rw [if_pos hs] at h3
      simp only [Bool.and_eq_true, Bool.not_eq_true', List.isEmpty_eq_false_iff, decide_eq_true_eq, List.all_eq_true] at h3
      refine .inr ⟨h3.1, hs, by omega, fun b hb => ?_⟩
      have := h3.2.2 b hb
      unfold mid
      omega
    · rw [if_neg hs] at h3
      exact .inl ⟨List.isEmpty_iff.1 h3, hs⟩
  have hA : ar.length ≤ 100 ∧ (ar = [] ∨ st = 4 ∨ st = 5) ∧ okS ar = true := by
    by_cases hs : st = 4 ∨ st = 5
    · rw [if_pos hs] at h4
      simp only [Bool.and_eq_true, decide_eq_true_eq] at h4
      exact ⟨h4.2, .inr hs, h4.1⟩
    · rw [if_neg hs] at h4
      have := List.isEmpty_iff.1 h4
      subst this
      exact ⟨Nat.zero_le _, .inl rfl, rfl⟩
  have hT : tx.length ≤ 256 ∧ (tx = [] ∨ st = 7 ∨ st = 8) := by
    by_cases hs : st = 7 ∨ st = 8
    · rw [if_pos hs] at h5
      exact ⟨of_decide_eq_true h5, .inr hs⟩
    · rw [if_neg hs] at h5
      have := List.isEmpty_iff.1 h5
      subst this
      exact ⟨Nat.zero_le _, .inl rfl⟩
  refine ⟨by show st.toNat ≤ 10; omega, ?_, ?_, ?_, hA.1, ?_, hT.1, ?_, ?_, ?_⟩
  · show mk = 0 ∨ 60 ≤ mk ∧ mk ≤ 63 ∧ (st.toNat = 4 ∨ st.toNat = 5)
    omega
  · show im.length ≤ 3
    rcases hI with h | h
    · rw [h.1]; exact Nat.zero_le _
    · exact h.2.2.1
  · show im = [] ↔ ¬ (st.toNat = 2 ∨ st.toNat = 5)
    rcases hI with h | h
    · exact ⟨fun _ => by omega, fun _ => h.1⟩
    · exact ⟨fun e2 => absurd e2 h.1, fun e2 => absurd h.2.1 (by omega)⟩
  · show ar = [] ∨ st.toNat = 4 ∨ st.toNat = 5
    exact hA.2.1.elim .inl (fun h => .inr (by omega))
  · show tx = [] ∨ st.toNat = 7 ∨ st.toNat = 8
    exact hT.2.elim .inl (fun h => .inr (by omega))
  · show ∀ b ∈ im, mid b
    rcases hI with h | h
    · rw [h.1]; exact fun b hb => by cases hb
    · exact h.2.2.2
  · show ∀ b ∈ ar, okB b = true
    have := hA.2.2
    unfold okS at this
    exact List.all_eq_true.1 this
theorem right_okP {p : Ps} (h : right p) : okP (p.st : Int) p.mark p.inter p.args p.text = true := by
  unfold okP okMark okInter okArgs okText areMid
  simp only [Bool.and_eq_true, Bool.or_eq_true, decide_eq_true_eq]
  have h1 := h.st
  have h2 := h.mark
  have h3 := h.ilen
  refine ⟨⟨⟨⟨by omega, ?_⟩, ?_⟩, ?_⟩, ?_⟩
  · rcases h2 with h2 | h2
    · exact .inl h2
    · exact .inr ⟨by omega, by omega⟩
  · by_cases hs : (p.st : Int) = 2 ∨ (p.st : Int) = 5
    · rw [if_pos hs]
      simp only [Bool.and_eq_true, Bool.not_eq_true', List.isEmpty_eq_false_iff, decide_eq_true_eq, List.all_eq_true]
      refine ⟨fun e => h.inter.1 e (by omega), by omega, fun b hb => ?_⟩
      have := h.mids b hb
      unfold mid at this
      omega
    · rw [if_neg hs]
      exact List.isEmpty_iff.2 (h.inter.2 (by omega))
  · by_cases hs : (p.st : Int) = 4 ∨ (p.st : Int) = 5
    · rw [if_pos hs]
      simp only [Bool.and_eq_true, decide_eq_true_eq]
      refine ⟨?_, h.alen⟩
      unfold okS
      exact List.all_eq_true.2 h.signs
    · rw [if_neg hs]
      exact List.isEmpty_iff.2 (h.args.elim id (fun h => by omega))
  · by_cases hs : (p.st : Int) = 7 ∨ (p.st : Int) = 8
    · rw [if_pos hs]
      exact decide_eq_true h.tlen
    · rw [if_neg hs]
      exact List.isEmpty_iff.2 (h.text.elim id (fun h => by omega))

set_option maxHeartbeats 1000000 in
theorem hasNumbers_any (c : Int) (w : World) : Calls Tryd.prog 48 #[.int .i64 c] w fun e w' => e = .returned (.bool (decide (c = 4 ∨ c = 5))) ∧ w' = w := by
  by_cases h1 : c = 4
  · subst h1
    rw [decide_eq_true (.inl rfl)]
    go_enter Tryd.func48, Tryd.ntmps48
    go_wp2
    go_ret
    exact ⟨rfl, rfl⟩
  · have g1 : (c == 4) = false := beq_false_of_ne h1
    by_cases h2 : c = 5
    · subst h2
      rw [decide_eq_true (.inr rfl)]
      go_enter Tryd.func48, Tryd.ntmps48
      go_wp2
      go_ret
      exact ⟨rfl, rfl⟩
    · have g2 : (c == 5) = false := beq_false_of_ne h2
      rw [decide_eq_false (fun h => h.elim h1 h2)]
      go_enter Tryd.func48, Tryd.ntmps48
      go_wp2
      go_ret
      exact ⟨rfl, rfl⟩

theorem bne_of {a b : Int} (h : ¬ a = b) : (a != b) = true := by unfold bne; rw [beq_false_of_ne h]; rfl
theorem isEmpty_bs (l : List UInt8) : (bs l).toList.isEmpty = l.isEmpty := by rw [ByteArray.toList_eq]; rfl

set_option maxHeartbeats 4000000 in
set_option maxRecDepth 100000 in
theorem hasItsMark_any (st mk : Int) (im ar tx : List UInt8) (w : World) : Calls Tryd.prog 25 #[.agg #[.int .i64 st, .int .i64 mk, .string (bs im), .string (bs ar), .string (bs tx)]] w fun e w' => e = .returned (.bool (okMark st mk)) ∧ Below w.heap.size w w' := by
  have HN := Hid.mk' (fun W => hasNumbers_any st W)
  have HM := Hid.mk' (fun W => isMark_any mk W)
  unfold okMark
  generalize bs im = S1
  generalize bs ar = S2
  generalize bs tx = S3
  by_cases h1 : mk = 0
  · subst h1
    rw [decide_eq_true rfl, Bool.true_or]
    go_enter Tryd.func25, Tryd.ntmps25
    go_wp2
    go_ret
    exact ⟨rfl, (Below.refl _ _).alloc (Nat.le_refl _) _⟩
  · have g1 : (mk == 0) = false := beq_false_of_ne h1
    rw [decide_eq_false h1, Bool.false_or]
    by_cases h2 : st = 4 ∨ st = 5
    · rw [decide_eq_true h2] at HN ⊢
      rw [Bool.true_and]
      go_enter Tryd.func25, Tryd.ntmps25
      go_wp2_with fail
      refine (HN.out _).mono ?_
      rintro e w2 ⟨rfl, rfl⟩
      go_wp2_with fail
      refine (HM.out _).mono ?_
      rintro e w2 ⟨rfl, rfl⟩
      go_wp2
      go_ret
      exact ⟨rfl, (Below.refl _ _).alloc (Nat.le_refl _) _⟩
    · rw [decide_eq_false h2] at HN ⊢
      rw [Bool.false_and]
      go_enter Tryd.func25, Tryd.ntmps25
      go_wp2_with fail
      refine (HN.out _).mono ?_
      rintro e w2 ⟨rfl, rfl⟩
      go_wp2
      go_ret
      exact ⟨rfl, (Below.refl _ _).alloc (Nat.le_refl _) _⟩

theorem areMid_step {l : List UInt8} {k : Nat} (h : k < l.length) : (l.drop k).all (fun b => decide (32 ≤ (b.toNat : Int) ∧ (b.toNat : Int) ≤ 47)) = (decide (32 ≤ ((l[k]).toNat : Int) ∧ ((l[k]).toNat : Int) ≤ 47) && (l.drop (k + 1)).all fun b => decide (32 ≤ (b.toNat : Int) ∧ (b.toNat : Int) ≤ 47)) := by
  rw [List.drop_eq_getElem_cons h, List.all_cons]
set_option maxHeartbeats 4000000 in
set_option maxRecDepth 100000 in
theorem areInter_any (im : List UInt8) (n : Int) (w : World) (hl : im.length ≤ 1099511627776) : Calls Tryd.prog 50 #[.string (bs im), .int .i64 n] w fun e w' => e = .returned (.bool (areMid im n)) ∧ w' = w := by
  have hsz := C.bs_size im
  have HI := Hid.mk' (fun c W => isInter_any c W)
  unfold areMid
  by_cases h1 : (im.length : Int) ≤ n
  · have h2 : ¬ n < ((bs im).size : Int) := by omega
    rw [decide_eq_true h1, Bool.true_and]
    have HG : Hid (∀ k (h : k < im.length) (h2 : k < (bs im).size), (bs im)[k]'h2 = im[k]'h) := fun k h h2 => get_mk im k h h2
    generalize bs im = S at *
    go_enter Tryd.func50, Tryd.ntmps50
    go_wp2_with fail
    go_loopw [12] (fun s12 wr => ∃ k : Nat, k ≤ im.length ∧ s12 = .int .i64 (k : Int) ∧ Hid (im.all (fun b => decide (32 ≤ (b.toNat : Int) ∧ (b.toNat : Int) ≤ 47)) = (im.drop k).all (fun b => decide (32 ≤ (b.toNat : Int) ∧ (b.toNat : Int) ≤ 47))) ∧ wr = w) (fun i _ => im.length - (RowKit.intOf i).toNat)
    case atStart => exact ⟨0, Nat.zero_le _, rfl, rfl, rfl⟩
    case round =>
      obtain ⟨k, hk, rfl, HE, hw⟩ := hrel
      subst hw
      by_cases hlt : k < im.length
      · have hgt := HG.out k hlt (by omega)
        rw [areMid_step hlt] at HE
        generalize im[k] = y at *
        have HX := Hid.mk' (HI.out (y.toNat : Int) wr)
        have hgt2 : ((S[k]'(by omega)).toNat : Int) = (y.toNat : Int) := by rw [hgt]
        have hz : 0 ≤ (y.toNat : Int) ∧ (y.toNat : Int) < 256 := by have := y.toNat_lt; omega
        obtain ⟨hz0, hz1⟩ := hz
        clear hgt HG
        by_cases hy : 32 ≤ (y.toNat : Int) ∧ (y.toNat : Int) ≤ 47
        · rw [decide_eq_true hy] at HX HE
          rw [Bool.true_and] at HE
          clear hy
          generalize (y.toNat : Int) = z at *
          go_wp2_with fail
          refine HX.out.mono ?_
          rintro e w2 ⟨rfl, rfl⟩
          go_wp2
          go_roundw
          case rel => exact ⟨k + 1, by omega, by go_num, HE, trivial⟩
          case measure => simp [RowKit.intOf]; omega
        · rw [decide_eq_false hy] at HX HE
          rw [Bool.false_and] at HE
          have HE2 := Hid.mk' HE.out
          clear hy HE
          generalize (y.toNat : Int) = z at *
          go_wp2_with fail
          refine HX.out.mono ?_
          rintro e w2 ⟨rfl, rfl⟩
          go_wp2
          go_ret
          exact ⟨congrArg (fun b => Ending.returned (Value.bool b)) HE2.out.symm, rfl⟩
      · obtain rfl : k = im.length := by omega
        rw [List.drop_length] at HE
        have HE2 := Hid.mk' HE.out
        clear HG HE
        go_wp2
        go_ret
        exact ⟨congrArg (fun b => Ending.returned (Value.bool b)) HE2.out.symm, rfl⟩
  · have h2 : n < ((bs im).size : Int) := by omega
    rw [decide_eq_false h1, Bool.false_and]
    generalize bs im = S at *
    go_enter Tryd.func50, Tryd.ntmps50
    go_wp2
    go_ret
    exact ⟨rfl, rfl⟩

set_option maxHeartbeats 4000000 in
set_option maxRecDepth 100000 in
theorem hasItsInter_any (st mk : Int) (im ar tx : List UInt8) (w : World) (hl : im.length ≤ 1099511627776) : Calls Tryd.prog 26 #[.agg #[.int .i64 st, .int .i64 mk, .string (bs im), .string (bs ar), .string (bs tx)]] w fun e w' => e = .returned (.bool (okInter st im)) ∧ Below w.heap.size w w' := by
  have HA := Hid.mk' (fun W => areInter_any im 3 W hl)
  have he := isEmpty_bs im
  unfold okInter
  generalize bs ar = S2
  generalize bs tx = S3
  by_cases h1 : st = 2 ∨ st = 5
  · rw [if_pos h1]
    generalize bs im = S1 at *
    cases hb : im.isEmpty with
    | true =>
      rw [hb] at he
      rw [Bool.not_true, Bool.false_and]
      rcases h1 with rfl | rfl
      · go_enter Tryd.func26, Tryd.ntmps26
        go_wp2
        go_ret
        exact ⟨rfl, (Below.refl _ _).alloc (Nat.le_refl _) _⟩
      · go_enter Tryd.func26, Tryd.ntmps26
        go_wp2
        go_ret
        exact ⟨rfl, (Below.refl _ _).alloc (Nat.le_refl _) _⟩
    | false =>
      rw [hb] at he
      rw [Bool.not_false, Bool.true_and]
      rcases h1 with rfl | rfl
      · go_enter Tryd.func26, Tryd.ntmps26
        go_wp2_with fail
        refine (HA.out _).mono ?_
        rintro e w2 ⟨rfl, rfl⟩
        go_wp2
        go_ret
        exact ⟨rfl, (Below.refl _ _).alloc (Nat.le_refl _) _⟩
      · go_enter Tryd.func26, Tryd.ntmps26
        go_wp2_with fail
        refine (HA.out _).mono ?_
        rintro e w2 ⟨rfl, rfl⟩
        go_wp2
        go_ret
        exact ⟨rfl, (Below.refl _ _).alloc (Nat.le_refl _) _⟩
  · have g2 : (st != 2) = true := bne_of (fun e => h1 (.inl e))
    have g5 : (st != 5) = true := bne_of (fun e => h1 (.inr e))
    rw [if_neg h1, ← he]
    clear HA he
    generalize bs im = S1 at *
    go_enter Tryd.func26, Tryd.ntmps26
    go_wp2
    go_ret
    exact ⟨rfl, (Below.refl _ _).alloc (Nat.le_refl _) _⟩

set_option maxHeartbeats 4000000 in
set_option maxRecDepth 100000 in
theorem hasItsText_any (st mk : Int) (im ar tx : List UInt8) (w : World) (hl : tx.length ≤ 1099511627776) : Calls Tryd.prog 28 #[.agg #[.int .i64 st, .int .i64 mk, .string (bs im), .string (bs ar), .string (bs tx)]] w fun e w' => e = .returned (.bool (okText st tx)) ∧ Below w.heap.size w w' := by
  have he := isEmpty_bs tx
  have hsz := C.bs_size tx
  unfold okText
  generalize bs ar = S2
  generalize bs im = S1
  by_cases h1 : st = 7 ∨ st = 8
  · rw [if_pos h1]
    have hd : decide (tx.length ≤ 256) = decide (((bs tx).size : Int) ≤ 256) := by
      rw [decide_eq_decide]; omega
    rw [hd]
    clear hd he
    have hb : (bs tx).size ≤ 1099511627776 := by omega
    clear hsz
    generalize bs tx = S3 at *
    rcases h1 with rfl | rfl
    · go_enter Tryd.func28, Tryd.ntmps28
      go_wp2
      go_ret
      exact ⟨rfl, (Below.refl _ _).alloc (Nat.le_refl _) _⟩
    · go_enter Tryd.func28, Tryd.ntmps28
      go_wp2
      go_ret
      exact ⟨rfl, (Below.refl _ _).alloc (Nat.le_refl _) _⟩
  · have g2 : (st != 7) = true := bne_of (fun e => h1 (.inl e))
    have g5 : (st != 8) = true := bne_of (fun e => h1 (.inr e))
    rw [if_neg h1, ← he]
    clear he hsz
    generalize bs tx = S3 at *
    go_enter Tryd.func28, Tryd.ntmps28
    go_wp2
    go_ret
    exact ⟨rfl, (Below.refl _ _).alloc (Nat.le_refl _) _⟩

set_option maxHeartbeats 4000000 in
set_option maxRecDepth 100000 in
theorem hasItsArgs_any (st mk : Int) (im ar tx : List UInt8) (w : World) (hl : ar.length ≤ 1099511627776) : Calls Tryd.prog 27 #[.agg #[.int .i64 st, .int .i64 mk, .string (bs im), .string (bs ar), .string (bs tx)]] w fun e w' => e = .returned (.bool (okArgs st ar)) ∧ Below w.heap.size w w' := by
  have HN := Hid.mk' (fun W => hasNumbers_any st W)
  have HR := Hid.mk' (fun W => Read_any ar W (by omega))
  have he := isEmpty_bs ar
  have hsz := C.bs_size ar
  have hrd : (readT ar).2 = if okS ar = true then 0 else 4 := by
    unfold readT
    split <;> rfl
  unfold okArgs
  generalize bs im = S1
  generalize bs tx = S3
  by_cases h1 : st = 4 ∨ st = 5
  · rw [if_pos h1]
    rw [decide_eq_true h1] at HN
    have hd : decide (ar.length ≤ 100) = decide (((bs ar).size : Int) ≤ 100) := by
      rw [decide_eq_decide]; omega
    rw [hd]
    clear he hd
    have hb : (bs ar).size ≤ 1099511627776 := by omega
    clear hsz
    generalize bs ar = S2 at *
    generalize readT ar = Y at *
    obtain ⟨Y1, Y2⟩ := Y
    dsimp only at hrd HR
    subst hrd
    cases hb : okS ar with
    | true =>
      rw [hb, if_pos rfl] at HR
      rw [Bool.true_and]
      go_enter Tryd.func27, Tryd.ntmps27
      go_wp2_with fail
      refine (HN.out _).mono ?_
      rintro e w2 ⟨rfl, rfl⟩
      go_wp2_with fail
      refine (HR.out _).mono ?_
      rintro e w2 ⟨v, rfl, ho, hB⟩
      have d3 : w2.cell? ⟨w.heap.size, 3, none⟩ = some (.string S2) := (hB.cell (p := ⟨w.heap.size, 3, none⟩) (by simp)).trans ((Box.new w 23 [.int .i64 st, .int .i64 mk, .string S1, .string S2, .string S3]).cell (j := 3) rfl)
      have HB := Hid.mk' (show Below w.heap.size w w2 from ((Below.refl _ _).alloc (Nat.le_refl _) _).trans (Below.mono hB (by simp)))
      clear ho hB
      go_wp2
      go_ret
      exact ⟨rfl, HB.out⟩
    | false =>
      rw [hb, if_neg (by decide)] at HR
      rw [Bool.false_and]
      go_enter Tryd.func27, Tryd.ntmps27
      go_wp2_with fail
      refine (HN.out _).mono ?_
      rintro e w2 ⟨rfl, rfl⟩
      go_wp2_with fail
      refine (HR.out _).mono ?_
      rintro e w2 ⟨v, rfl, ho, hB⟩
      have HB := Hid.mk' (show Below w.heap.size w w2 from ((Below.refl _ _).alloc (Nat.le_refl _) _).trans (Below.mono hB (by simp)))
      clear ho hB
      go_wp2
      go_ret
      exact ⟨rfl, HB.out⟩
  · rw [if_neg h1, ← he]
    rw [decide_eq_false h1] at HN
    clear he hsz HR hrd
    generalize bs ar = S2 at *
    go_enter Tryd.func27, Tryd.ntmps27
    go_wp2_with fail
    refine (HN.out _).mono ?_
    rintro e w2 ⟨rfl, rfl⟩
    go_wp2
    go_ret
    exact ⟨rfl, (Below.refl _ _).alloc (Nat.le_refl _) _⟩

end Go.Proofs.YtneiiinheimglaaDoor.B
