/-
  Contract of parse.Write: an act's runes, or that it may not be written; conditions: the tables of unicode/utf8 and internal/strconv.uint64pow10 hold what their initialisers lay; at most 2^20 bytes and numbers.
-/
import Derived.Test.YtneiiinheimglaaGreatDoorJ4
namespace Go.Proofs.YtneiiinheimglaaGreatDoor.B
open Go.RowKit Go.Lib Go.Proofs.YtneiiinheimglaaGreatDoor Go.Proofs.YtneiiinheimglaaGreatDoor.W Go.Proofs.YtneiiinheimglaaGreatDoor.Q Go.Proofs.YtneiiinheimglaaGreatDoor.C Go.Proofs.YtneiiinheimglaaGreatDoor.Z

theorem wrT_len {kd cd mk : Int} {im : List UInt8} {ar : List Int} {tx : List UInt8} (h : wOk ⟨kd, cd, mk, im, ar, tx⟩) : (wrT kd cd mk im ar tx).length ≤ 2000 := by
  unfold wOk at h
  simp only [Ac.mk.injEq] at h
  have h4 := U.encodeRune_len cd
  have h5 := U.encodeRune_len mk
  rcases h with ⟨⟨rfl, _, rfl, rfl, rfl, rfl⟩, _⟩ | ⟨⟨rfl, _, rfl, rfl, rfl, rfl⟩, _⟩ | ⟨⟨rfl, _, rfl, _, rfl, rfl⟩, _, _, hi, _⟩ | ⟨⟨rfl, _, _, _, _, rfl⟩, _, _, _, hi, hk, h32, h100⟩ | ⟨⟨rfl, rfl, rfl, rfl, rfl, _⟩, hl, _⟩
  · show (encodeRune cd).length ≤ 2000
    omega
  · show (encodeRune cd).length ≤ 2000
    omega
  · show ([27] ++ im ++ encodeRune cd).length ≤ 2000
    have h1 : im.length ≤ 2 := hi.1
    simp only [List.length_append, List.length_cons, List.length_nil]
    omega
  · have hw : (writeT ar).1 = Z.text ar := by unfold writeT; rw [if_pos hk, if_neg (by omega)]
    show ([27, 91] ++ (if mk = 0 then [] else encodeRune mk) ++ (writeT ar).1 ++ im ++ encodeRune cd).length ≤ 2000
    have h1 : im.length ≤ 2 := hi.1
    have h2 : (Z.text ar).length ≤ 100 := h100
    have h3 : (if mk = 0 then ([] : List UInt8) else encodeRune mk).length ≤ 4 := by split; exact Nat.zero_le _; exact h5
    rw [hw]
    simp only [List.length_append, List.length_cons, List.length_nil]
    omega
  · have h1 : tx.length ≤ 256 := hl
    show ([27, 93] ++ tx ++ [7]).length ≤ 2000
    simp only [List.length_append, List.length_cons, List.length_nil]
    omega
theorem wTx_len {kd cd mk : Int} {im : List UInt8} {ar : List Int} {tx : List UInt8} (h : wOk ⟨kd, cd, mk, im, ar, tx⟩) : (writeT ar).1.length ≤ 2000 := by
  unfold wOk at h
  simp only [Ac.mk.injEq] at h
  have hn : (writeT []).1.length ≤ 2000 := by decide +kernel
  rcases h with ⟨⟨rfl, _, rfl, rfl, rfl, rfl⟩, _⟩ | ⟨⟨rfl, _, rfl, rfl, rfl, rfl⟩, _⟩ | ⟨⟨rfl, _, rfl, _, rfl, rfl⟩, _⟩ | ⟨⟨rfl, _, _, _, _, rfl⟩, _, _, _, _, hk, h32, h100⟩ | ⟨⟨rfl, rfl, rfl, rfl, rfl, _⟩, _⟩
  · exact hn
  · exact hn
  · exact hn
  · have hw : (writeT ar).1 = Z.text ar := by unfold writeT; rw [if_pos hk, if_neg (by omega)]
    have h2 : (Z.text ar).length ≤ 100 := h100
    rw [hw]; omega
  · exact hn
set_option maxHeartbeats 8000000 in
set_option maxRecDepth 100000 in
theorem PWrite_no (kd cd mk : Int) (im : List UInt8) (ar : List Int) (tx : List UInt8) (v : Value) (w : World) (hv : RdI w v ar) (hT : Tab w) (hU : U.Tabs w) (hl : im.length ≤ 1048576) (hlt : tx.length ≤ 1048576) (hla : ar.length ≤ 1048576) (hb : wB kd cd mk im ar tx = false) :
    Calls Tryz.prog 4 #[.agg #[.int .i64 kd, .int .i64 cd, .int .i64 mk, .string (bs im), v, .string (bs tx)]] w fun e w' => e = .returned (.tuple #[.slice none 0 0, .int .i64 1]) ∧ Below w.heap.size w w' := by
  have HQ := Hid.mk' (fun W (h : Below w.heap.size w W) => isWritable_any kd cd mk im ar tx v W (hv.below h) (hT.below h) (hU.below h) (by omega) (by omega) (by omega))
  rw [hb] at HQ
  obtain ⟨ad, cp, rfl, hv2⟩ := hv
  clear hv2
  generalize bs im = SI at *
  generalize bs tx = ST at *
  generalize ar.length = n at *
  clear hl hla hT hU hlt hb
  have hA0 : Below w.heap.size w (w.alloc (.cells #[.int .i64 kd, .int .i64 cd, .int .i64 mk, .string SI, .slice ad n cp, .string ST] 24)) := (Below.refl _ _).alloc (Nat.le_refl _) _
  have X0 := Box.new w 24 [.int .i64 kd, .int .i64 cd, .int .i64 mk, .string SI, .slice ad n cp, .string ST]
  have c0 := X0.cell (j := 0) (v := .int .i64 kd) rfl
  have c1 := X0.cell (j := 1) (v := .int .i64 cd) rfl
  have c2 := X0.cell (j := 2) (v := .int .i64 mk) rfl
  have c3 := X0.cell (j := 3) (v := .string SI) rfl
  have c4 := X0.cell (j := 4) (v := .slice ad n cp) rfl
  have c5 := X0.cell (j := 5) (v := .string ST) rfl
  have HX0 := Hid.mk' (And.intro X0 hA0)
  clear X0 hA0
  go_enter Tryz.func4, Tryz.ntmps4
  go_wp2_with fail
  refine (HQ.out _ HX0.out.2).mono ?_
  rintro e w2 ⟨rfl, hb2⟩
  have HB2 := Hid.mk' (HX0.out.2.trans (Below.mono hb2 HX0.out.2.size))
  clear hb2 HX0 HQ c0 c1 c2 c3 c4 c5
  go_wp2
  go_ret2
  exact ⟨rfl, HB2.out⟩
set_option maxHeartbeats 8000000 in
set_option maxRecDepth 100000 in
theorem PWrite_ok (kd cd mk : Int) (im : List UInt8) (ar : List Int) (tx : List UInt8) (v : Value) (w : World) (hv : RdI w v ar) (hT : Tab w) (hU : U.Tabs w) (hl : im.length ≤ 1048576) (hlt : tx.length ≤ 1048576) (hla : ar.length ≤ 1048576) (hb : wOk ⟨kd, cd, mk, im, ar, tx⟩) :
    Calls Tryz.prog 4 #[.agg #[.int .i64 kd, .int .i64 cd, .int .i64 mk, .string (bs im), v, .string (bs tx)]] w fun e w' => ∃ v2, e = .returned (.tuple #[v2, .int .i64 0]) ∧ OwnI w' w.heap.size v2 (wL ⟨kd, cd, mk, im, ar, tx⟩) ∧ Below w.heap.size w w' := by
  have HQ := Hid.mk' (fun W (h : Below w.heap.size w W) => isWritable_any kd cd mk im ar tx v W (hv.below h) (hT.below h) (hU.below h) (by omega) (by omega) (by omega))
  rw [(wB_iff kd cd mk im ar tx).2 hb] at HQ
  obtain ⟨hc, hm⟩ := (wrT_enc hb).2.2
  have hx := wTx_len hb
  have HWR := Hid.mk' (fun W (h : Below w.heap.size w W) => written_any kd cd mk im ar tx v W (hv.below h) (hT.below h) hc hm (by omega) (by omega) (by omega) (by omega))
  have HUF := Hid.mk' (fun W (h : Below w.heap.size w W) => U.Feed_ok [] (wrT kd cd mk im ar tx) W (hU.below h) (.inl rfl) (by have := wrT_len hb; simp only [List.length_nil]; omega))
  have hrd := wrT_rd hb
  rw [List.nil_append, hrd] at HUF
  clear hrd
  generalize wL ⟨kd, cd, mk, im, ar, tx⟩ = L at *
  obtain ⟨ad, cp, rfl, hv2⟩ := hv
  clear hv2
  change Hid (∀ W, Below w.heap.size w W → Calls Tryz.prog 8 #[.string ⟨#[]⟩, .string (bs (wrT kd cd mk im ar tx))] W _) at HUF
  generalize bs (wrT kd cd mk im ar tx) = SW at *
  generalize (⟨(U.rd (wrT kd cd mk im ar tx)).1.toArray⟩ : ByteArray) = SR at *
  generalize bs im = SI at *
  generalize bs tx = ST at *
  generalize ar.length = n at *
  clear hl hla hT hU hlt hb hc hm hx
  have hA0 : Below w.heap.size w (w.alloc (.cells #[.int .i64 kd, .int .i64 cd, .int .i64 mk, .string SI, .slice ad n cp, .string ST] 24)) := (Below.refl _ _).alloc (Nat.le_refl _) _
  have X0 := Box.new w 24 [.int .i64 kd, .int .i64 cd, .int .i64 mk, .string SI, .slice ad n cp, .string ST]
  have c0 := X0.cell (j := 0) (v := .int .i64 kd) rfl
  have c1 := X0.cell (j := 1) (v := .int .i64 cd) rfl
  have c2 := X0.cell (j := 2) (v := .int .i64 mk) rfl
  have c3 := X0.cell (j := 3) (v := .string SI) rfl
  have c4 := X0.cell (j := 4) (v := .slice ad n cp) rfl
  have c5 := X0.cell (j := 5) (v := .string ST) rfl
  have HX0 := Hid.mk' (And.intro X0 hA0)
  clear X0 hA0
  go_enter Tryz.func4, Tryz.ntmps4
  go_wp2_with fail
  refine (HQ.out _ HX0.out.2).mono ?_
  rintro e w2 ⟨rfl, hb2⟩
  have HX2 := Hid.mk' (And.intro (HX0.out.1.later hb2) (HX0.out.2.trans (Below.mono hb2 HX0.out.2.size)))
  clear hb2 HX0 HQ c0 c1 c2 c3 c4 c5
  have c0 := HX2.out.1.cell (j := 0) (v := .int .i64 kd) rfl
  have c1 := HX2.out.1.cell (j := 1) (v := .int .i64 cd) rfl
  have c2 := HX2.out.1.cell (j := 2) (v := .int .i64 mk) rfl
  have c3 := HX2.out.1.cell (j := 3) (v := .string SI) rfl
  have c4 := HX2.out.1.cell (j := 4) (v := .slice ad n cp) rfl
  have c5 := HX2.out.1.cell (j := 5) (v := .string ST) rfl
  go_wp2_with fail
  refine (HWR.out _ HX2.out.2).mono ?_
  rintro e w3 ⟨rfl, hb3⟩
  have HB3 := Hid.mk' (HX2.out.2.trans (Below.mono hb3 HX2.out.2.size))
  clear hb3 HX2 HWR c0 c1 c2 c3 c4 c5
  go_wp2_with fail
  refine (HUF.out _ HB3.out).mono ?_
  rintro e w4 ⟨v2, rfl, ho4, hb4⟩
  have HO4 := Hid.mk' (show OwnI w4 w.heap.size v2 L from OwnI.weak (show OwnI w4 w3.heap.size v2 L from ho4) HB3.out.size)
  have HB4 := Hid.mk' (HB3.out.trans (Below.mono hb4 HB3.out.size))
  clear ho4 hb4 HB3 HUF
  go_wp2
  go_ret2
  exact ⟨_, rfl, HO4.out, HB4.out⟩
end Go.Proofs.YtneiiinheimglaaGreatDoor.B
