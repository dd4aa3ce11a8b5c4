/-
  Contract of take, over an editor in memory; conditions: a line of fewer than 1024 bytes, no more lines and bytes shown than so many, four words of 64 bits.
-/
import Derived.Test.YtomgnnbcaficaaaDoorLTake
namespace Go.Proofs.YtomgnnbcaficaaaDoor.L
open Go.RowKit Go.Lib Go.Proofs.YtomgnnbcaficaaaDoor Go.Proofs.YtomgnnbcaficaaaDoor.W Go.Proofs.YtomgnnbcaficaaaDoor.Q

/-- what a byte leaves in memory -/
def Took (base : Nat) (w : World) (b : Nat) (k : List UInt8) (M : List Nat) (s' : S) (e : Ending) (w' : World) : Prop := e = .returned (.tuple #[]) ∧ TX base w' b k M s' ∧ Below base w w'
theorem KK_quote (k : List UInt8) (M : List Nat) (c : UInt8) : (KK k M).quote c = isK k 14 c := rfl
theorem putS_ls (s : S) (c : UInt8) : (putS s c).ls.length ≤ s.ls.length + 1 := by
  unfold putS; split <;> simp

set_option maxHeartbeats 8000000 in
set_option maxRecDepth 100000 in
theorem take_q {base : Nat} {w : World} {b : Nat} {k : List UInt8} {M : List Nat} {s : S} (h : TX base w b k M s) (hl : s.ls.length ≤ 900000) (hbl : s.buf.length < 1024) (hel : s.echo.length ≤ 50000000) (c : UInt8) (hq : s.q = true) :
    Calls Tryd.prog 28 #[.pointer (some ⟨b, 0, none⟩), .int .u8 (c.toNat : Int)] w fun e w' => Took base w b k M (stepS (KK k M) s c) e w' := by
  have HR : Hid (stepS (KK k M) s c = putS ⟨s.buf, false, s.ls, s.echo⟩ c) := stepS_q _ _ _ hq
  have HX := Hid.mk' h
  obtain ⟨ab, nb, cb, al, nl, cl, ae, ne, ce, h⟩ := h
  have c43 := h.c43
  have c42 := h.c42
  rw [hq] at c43
  have HT := Hid.mk' h
  clear h hq
  go_enter Tryd.func28, Tryd.ntmps28
  have f43 := HT.out.fr 43
  have HT2 : Hid (TX base (w.setCell ⟨b, 43, none⟩ (.bool false)) b k M ⟨s.buf, false, s.ls, s.echo⟩) := ⟨_, _, _, _, _, _, _, _, _, HT.out.setQ false⟩
  have HB2 : Hid (Below base w (w.setCell ⟨b, 43, none⟩ (.bool false))) := (Below.refl base w).setCell (p := ⟨b, 43, none⟩) HT.out.lo _
  have HP := Hid.mk' (put_any HT2.out (by show s.ls.length ≤ _; omega) (by show s.buf.length ≤ _; omega) (by show s.echo.length ≤ _; omega) c)
  clear HT HX HT2
  go_wp2_with fail
  refine HP.out.mono ?_
  rintro e w2 ⟨rfl, hT, hB⟩
  go_wp2
  go_end0
  exact ⟨rfl, by rw [HR.out]; exact hT, HB2.out.trans hB⟩

set_option maxHeartbeats 8000000 in
set_option maxRecDepth 100000 in
theorem take_quote {base : Nat} {w : World} {b : Nat} {k : List UInt8} {M : List Nat} {s : S} (h : TX base w b k M s) (c : UInt8) (hq : s.q = false) (h14 : isK k 14 c = true) :
    Calls Tryd.prog 28 #[.pointer (some ⟨b, 0, none⟩), .int .u8 (c.toNat : Int)] w fun e w' => Took base w b k M (stepS (KK k M) s c) e w' := by
  have HR : Hid (stepS (KK k M) s c = ⟨s.buf, true, s.ls, s.echo⟩) := stepS_quote _ _ _ hq h14
  have HK14 : Hid (Calls Tryd.prog 38 #[.pointer (some ⟨b, 0, none⟩), .int .i64 14, .int .u8 (c.toNat : Int)] w fun e w' => e = .returned (.bool true) ∧ w' = w) := by have hh := isKey_any h 14 (by omega) c; rw [h14] at hh; exact hh
  have HX := Hid.mk' h
  obtain ⟨ab, nb, cb, al, nl, cl, ae, ne, ce, h⟩ := h
  have c43 := h.c43
  have c42 := h.c42
  rw [hq] at c43
  have HT := Hid.mk' h
  clear h hq h14
  go_enter Tryd.func28, Tryd.ntmps28
  go_wp2_with fail
  refine HK14.out.mono ?_
  rintro e w1 ⟨rfl, rfl⟩
  have f43 := HT.out.fr 43
  have HT2 : Hid (TX base (w1.setCell ⟨b, 43, none⟩ (.bool true)) b k M ⟨s.buf, true, s.ls, s.echo⟩) := ⟨_, _, _, _, _, _, _, _, _, HT.out.setQ true⟩
  have HB2 : Hid (Below base w1 (w1.setCell ⟨b, 43, none⟩ (.bool true))) := (Below.refl base w1).setCell (p := ⟨b, 43, none⟩) HT.out.lo _
  clear HT HX
  go_wp2
  go_end0
  exact ⟨rfl, by rw [HR.out]; exact HT2.out, HB2.out⟩

set_option maxHeartbeats 8000000 in
set_option maxRecDepth 100000 in
theorem take_char {base : Nat} {w : World} {b : Nat} {k : List UInt8} {M : List Nat} {s : S} (h : TX base w b k M s) (hbl : s.buf.length < 1024) (hel : s.echo.length ≤ 50000000) (c : UInt8) (hq : s.q = false) (h14 : isK k 14 c = false) (h10 : isK k 10 c = true) :
    Calls Tryd.prog 28 #[.pointer (some ⟨b, 0, none⟩), .int .u8 (c.toNat : Int)] w fun e w' => Took base w b k M (stepS (KK k M) s c) e w' := by
  have HR : Hid (stepS (KK k M) s c = cutS s (s.buf.length - 1)) := stepS_char _ _ _ hq h14 h10
  have HK14 : Hid (Calls Tryd.prog 38 #[.pointer (some ⟨b, 0, none⟩), .int .i64 14, .int .u8 (c.toNat : Int)] w fun e w' => e = .returned (.bool false) ∧ w' = w) := by have hh := isKey_any h 14 (by omega) c; rw [h14] at hh; exact hh
  have HK10 : Hid (Calls Tryd.prog 38 #[.pointer (some ⟨b, 0, none⟩), .int .i64 10, .int .u8 (c.toNat : Int)] w fun e w' => e = .returned (.bool true) ∧ w' = w) := by have hh := isKey_any h 10 (by omega) c; rw [h10] at hh; exact hh
  have HX := Hid.mk' h
  obtain ⟨ab, nb, cb, al, nl, cl, ae, ne, ce, h⟩ := h
  have c43 := h.c43
  have c42 := h.c42
  rw [hq] at c43
  have HT := Hid.mk' h
  clear h hq h14 h10
  go_enter Tryd.func28, Tryd.ntmps28
  go_wp2_with fail
  refine HK14.out.mono ?_
  rintro e w1 ⟨rfl, rfl⟩
  go_wp2_with fail
  refine HK10.out.mono ?_
  rintro e w1 ⟨rfl, rfl⟩
  have hnb := HT.out.eb
  have HC := cut_any HX.out (by omega) (by omega) (s.buf.length - 1) (Nat.sub_le _ _)
  have hnb2 : nb ≤ 1024 := by omega
  by_cases h1 : 1 < nb
  · rw [show ((s.buf.length - 1 : Nat) : Int) = (nb : Int) - 1 by omega] at HC
    have HC := Hid.mk' HC
    have h1' : (0 : Int) < (nb : Int) - 1 := by omega
    clear HT HX hnb
    go_wp2_with fail
    refine HC.out.mono ?_
    rintro e w2 ⟨rfl, hT, hB⟩
    go_wp2
    go_end0
    exact ⟨rfl, by rw [HR.out]; exact hT, hB⟩
  · rw [show ((s.buf.length - 1 : Nat) : Int) = 0 by omega] at HC
    have HC := Hid.mk' HC
    have h1' : ¬ (0 : Int) < (nb : Int) - 1 := by omega
    clear HT HX hnb
    go_wp2_with fail
    refine HC.out.mono ?_
    rintro e w2 ⟨rfl, hT, hB⟩
    go_wp2
    go_end0
    exact ⟨rfl, by rw [HR.out]; exact hT, hB⟩

set_option maxHeartbeats 8000000 in
set_option maxRecDepth 100000 in
theorem take_word {base : Nat} {w : World} {b : Nat} {k : List UInt8} {M : List Nat} {s : S} (h : TX base w b k M s) (hbl : s.buf.length < 1024) (hel : s.echo.length ≤ 50000000) (c : UInt8) (hq : s.q = false) (h14 : isK k 14 c = false) (h10 : isK k 10 c = false) (h12 : isK k 12 c = true) :
    Calls Tryd.prog 28 #[.pointer (some ⟨b, 0, none⟩), .int .u8 (c.toNat : Int)] w fun e w' => Took base w b k M (stepS (KK k M) s c) e w' := by
  have HR : Hid (stepS (KK k M) s c = cutS s (ws s.buf)) := stepS_word _ _ _ hq h14 h10 h12
  have HK14 : Hid (Calls Tryd.prog 38 #[.pointer (some ⟨b, 0, none⟩), .int .i64 14, .int .u8 (c.toNat : Int)] w fun e w' => e = .returned (.bool false) ∧ w' = w) := by have hh := isKey_any h 14 (by omega) c; rw [h14] at hh; exact hh
  have HK10 : Hid (Calls Tryd.prog 38 #[.pointer (some ⟨b, 0, none⟩), .int .i64 10, .int .u8 (c.toNat : Int)] w fun e w' => e = .returned (.bool false) ∧ w' = w) := by have hh := isKey_any h 10 (by omega) c; rw [h10] at hh; exact hh
  have HK12 : Hid (Calls Tryd.prog 38 #[.pointer (some ⟨b, 0, none⟩), .int .i64 12, .int .u8 (c.toNat : Int)] w fun e w' => e = .returned (.bool true) ∧ w' = w) := by have hh := isKey_any h 12 (by omega) c; rw [h12] at hh; exact hh
  have HX := Hid.mk' h
  obtain ⟨ab, nb, cb, al, nl, cl, ae, ne, ce, h⟩ := h
  have c43 := h.c43
  have c42 := h.c42
  rw [hq] at c43
  have HT := Hid.mk' h
  clear h hq h14 h10 h12
  go_enter Tryd.func28, Tryd.ntmps28
  go_wp2_with fail
  refine HK14.out.mono ?_
  rintro e w1 ⟨rfl, rfl⟩
  go_wp2_with fail
  refine HK10.out.mono ?_
  rintro e w1 ⟨rfl, rfl⟩
  go_wp2_with fail
  refine HK12.out.mono ?_
  rintro e w1 ⟨rfl, rfl⟩
  have HW := Hid.mk' (wordStart_any w1 ab cb s.buf HT.out.rd.1 nb HT.out.eb HT.out.rd.2 (by have := HT.out.eb; omega))
  have HC := Hid.mk' (cut_any HX.out (by omega) (by omega) (ws s.buf) (ws_le _))
  clear HT HX
  go_wp2_with fail
  refine HW.out.mono ?_
  rintro e w2 ⟨rfl, rfl⟩
  go_wp2_with fail
  refine HC.out.mono ?_
  rintro e w3 ⟨rfl, hT, hB⟩
  go_wp2
  go_end0
  exact ⟨rfl, by rw [HR.out]; exact hT, hB⟩

set_option maxHeartbeats 8000000 in
set_option maxRecDepth 100000 in
theorem take_line {base : Nat} {w : World} {b : Nat} {k : List UInt8} {M : List Nat} {s : S} (h : TX base w b k M s) (hbl : s.buf.length < 1024) (hel : s.echo.length ≤ 50000000) (c : UInt8) (hq : s.q = false) (h14 : isK k 14 c = false) (h10 : isK k 10 c = false) (h12 : isK k 12 c = false) (h11 : isK k 11 c = true) :
    Calls Tryd.prog 28 #[.pointer (some ⟨b, 0, none⟩), .int .u8 (c.toNat : Int)] w fun e w' => Took base w b k M (stepS (KK k M) s c) e w' := by
  have HR : Hid (stepS (KK k M) s c = cutS s 0) := stepS_line _ _ _ hq h14 h10 h12 h11
  have HK14 : Hid (Calls Tryd.prog 38 #[.pointer (some ⟨b, 0, none⟩), .int .i64 14, .int .u8 (c.toNat : Int)] w fun e w' => e = .returned (.bool false) ∧ w' = w) := by have hh := isKey_any h 14 (by omega) c; rw [h14] at hh; exact hh
  have HK10 : Hid (Calls Tryd.prog 38 #[.pointer (some ⟨b, 0, none⟩), .int .i64 10, .int .u8 (c.toNat : Int)] w fun e w' => e = .returned (.bool false) ∧ w' = w) := by have hh := isKey_any h 10 (by omega) c; rw [h10] at hh; exact hh
  have HK12 : Hid (Calls Tryd.prog 38 #[.pointer (some ⟨b, 0, none⟩), .int .i64 12, .int .u8 (c.toNat : Int)] w fun e w' => e = .returned (.bool false) ∧ w' = w) := by have hh := isKey_any h 12 (by omega) c; rw [h12] at hh; exact hh
  have HK11 : Hid (Calls Tryd.prog 38 #[.pointer (some ⟨b, 0, none⟩), .int .i64 11, .int .u8 (c.toNat : Int)] w fun e w' => e = .returned (.bool true) ∧ w' = w) := by have hh := isKey_any h 11 (by omega) c; rw [h11] at hh; exact hh
  have HX := Hid.mk' h
  obtain ⟨ab, nb, cb, al, nl, cl, ae, ne, ce, h⟩ := h
  have c43 := h.c43
  have c42 := h.c42
  rw [hq] at c43
  have HT := Hid.mk' h
  clear h hq h14 h10 h12 h11
  go_enter Tryd.func28, Tryd.ntmps28
  go_wp2_with fail
  refine HK14.out.mono ?_
  rintro e w1 ⟨rfl, rfl⟩
  go_wp2_with fail
  refine HK10.out.mono ?_
  rintro e w1 ⟨rfl, rfl⟩
  go_wp2_with fail
  refine HK12.out.mono ?_
  rintro e w1 ⟨rfl, rfl⟩
  go_wp2_with fail
  refine HK11.out.mono ?_
  rintro e w1 ⟨rfl, rfl⟩
  have HC : Hid (Calls Tryd.prog 39 #[.pointer (some ⟨b, 0, none⟩), .int .i64 0] w1 fun e w' => e = .returned (.tuple #[]) ∧ TX base w' b k M (cutS s 0) ∧ Below base w1 w') := cut_any HX.out (by omega) (by omega) 0 (Nat.zero_le _)
  clear HT HX
  go_wp2_with fail
  refine HC.out.mono ?_
  rintro e w3 ⟨rfl, hT, hB⟩
  go_wp2
  go_end0
  exact ⟨rfl, by rw [HR.out]; exact hT, hB⟩

set_option maxHeartbeats 8000000 in
set_option maxRecDepth 100000 in
theorem take_show {base : Nat} {w : World} {b : Nat} {k : List UInt8} {M : List Nat} {s : S} (h : TX base w b k M s) (hbl : s.buf.length < 1024) (hel : s.echo.length ≤ 50000000) (c : UInt8) (hq : s.q = false) (h14 : isK k 14 c = false) (h10 : isK k 10 c = false) (h12 : isK k 12 c = false) (h11 : isK k 11 c = false) (h13 : isK k 13 c = true) :
    Calls Tryd.prog 28 #[.pointer (some ⟨b, 0, none⟩), .int .u8 (c.toNat : Int)] w fun e w' => Took base w b k M (stepS (KK k M) s c) e w' := by
  have HR : Hid (stepS (KK k M) s c = ⟨s.buf, false, s.ls, s.echo ++ [13, 10] ++ s.buf⟩) := stepS_show _ _ _ hq h14 h10 h12 h11 h13
  have HK14 : Hid (Calls Tryd.prog 38 #[.pointer (some ⟨b, 0, none⟩), .int .i64 14, .int .u8 (c.toNat : Int)] w fun e w' => e = .returned (.bool false) ∧ w' = w) := by have hh := isKey_any h 14 (by omega) c; rw [h14] at hh; exact hh
  have HK10 : Hid (Calls Tryd.prog 38 #[.pointer (some ⟨b, 0, none⟩), .int .i64 10, .int .u8 (c.toNat : Int)] w fun e w' => e = .returned (.bool false) ∧ w' = w) := by have hh := isKey_any h 10 (by omega) c; rw [h10] at hh; exact hh
  have HK12 : Hid (Calls Tryd.prog 38 #[.pointer (some ⟨b, 0, none⟩), .int .i64 12, .int .u8 (c.toNat : Int)] w fun e w' => e = .returned (.bool false) ∧ w' = w) := by have hh := isKey_any h 12 (by omega) c; rw [h12] at hh; exact hh
  have HK11 : Hid (Calls Tryd.prog 38 #[.pointer (some ⟨b, 0, none⟩), .int .i64 11, .int .u8 (c.toNat : Int)] w fun e w' => e = .returned (.bool false) ∧ w' = w) := by have hh := isKey_any h 11 (by omega) c; rw [h11] at hh; exact hh
  have HK13 : Hid (Calls Tryd.prog 38 #[.pointer (some ⟨b, 0, none⟩), .int .i64 13, .int .u8 (c.toNat : Int)] w fun e w' => e = .returned (.bool true) ∧ w' = w) := by have hh := isKey_any h 13 (by omega) c; rw [h13] at hh; exact hh
  have hq0 := Hid.mk' hq
  have HX := Hid.mk' h
  obtain ⟨ab, nb, cb, al, nl, cl, ae, ne, ce, h⟩ := h
  have c43 := h.c43
  have c42 := h.c42
  rw [hq] at c43
  have HT := Hid.mk' h
  clear h hq h14 h10 h12 h11 h13
  go_enter Tryd.func28, Tryd.ntmps28
  go_wp2_with fail
  refine HK14.out.mono ?_
  rintro e w1 ⟨rfl, rfl⟩
  go_wp2_with fail
  refine HK10.out.mono ?_
  rintro e w1 ⟨rfl, rfl⟩
  go_wp2_with fail
  refine HK12.out.mono ?_
  rintro e w1 ⟨rfl, rfl⟩
  go_wp2_with fail
  refine HK11.out.mono ?_
  rintro e w1 ⟨rfl, rfl⟩
  go_wp2_with fail
  refine HK13.out.mono ?_
  rintro e w1 ⟨rfl, rfl⟩
  have c45 := HT.out.c45
  have f45 := HT.out.fr 45
  have hl1 : s.echo.length + [13, 10].length ≤ 100000000000 := by simp only [List.length_cons, List.length_nil]; omega
  have hl2 : (s.echo ++ [13, 10]).length + s.buf.length ≤ 100000000000 := by rw [List.length_append]; simp only [List.length_cons, List.length_nil]; omega
  go_wp2_with (refine wpList_echo rfl HT.out _ _ 9 rfl rfl (.string { data := #[13, 10] }) rfl 2 [13, 10] (src_str _ _) hl1 ?_)
  intro ae1 ne1 ce1 w2 e45 g45 e42 T1 B1
  clear HT HX hl1 c42 c43 c45 f45
  go_wp2
  generalize hW1 : w2.setCell ⟨b, 45, none⟩ (.slice ae1 ne1 ce1) = w3 at *
  clear hW1 e45 g45 e42
  have d45 := T1.out.c45
  have d42 := T1.out.c42
  have g45 := T1.out.fr 45
  go_region_law ((
    refine rstep_echo rfl T1.out.drew (.tmp 71) (.tmp 75) 48 rfl (by simp [Act.eval]) (.slice ab nb cb) (by simp [Act.eval]) nb s.buf (src_own T1.out.drew.ob) hl2 ?_
    intro ae4 ne4 ce4 w4 x45 y45 x42 T4 B4))
  all_goals
    go_wp2
    go_end0
    exact ⟨rfl, by rw [HR.out, ← hq0.out]; exact ⟨_, _, _, _, _, _, _, _, _, T4.out⟩, B1.out.trans (Below.trans (Below.refl base w3).drew B4.out)⟩

set_option maxHeartbeats 8000000 in
set_option maxRecDepth 100000 in
theorem take_put {base : Nat} {w : World} {b : Nat} {k : List UInt8} {M : List Nat} {s : S} (h : TX base w b k M s) (hM : H.okW M) (hl : s.ls.length ≤ 900000) (hbl : s.buf.length < 1024) (hel : s.echo.length ≤ 50000000) (c : UInt8) (hq : s.q = false) (h14 : isK k 14 c = false) (h10 : isK k 10 c = false) (h12 : isK k 12 c = false) (h11 : isK k 11 c = false) (h13 : isK k 13 c = false) (he : isEnd k M c = false) :
    Calls Tryd.prog 28 #[.pointer (some ⟨b, 0, none⟩), .int .u8 (c.toNat : Int)] w fun e w' => Took base w b k M (stepS (KK k M) s c) e w' := by
  have HR : Hid (stepS (KK k M) s c = putS s c) := stepS_put _ _ _ hq ⟨h14, h10, h12, h11, h13⟩ he
  have HK14 : Hid (Calls Tryd.prog 38 #[.pointer (some ⟨b, 0, none⟩), .int .i64 14, .int .u8 (c.toNat : Int)] w fun e w' => e = .returned (.bool false) ∧ w' = w) := by have hh := isKey_any h 14 (by omega) c; rw [h14] at hh; exact hh
  have HK10 : Hid (Calls Tryd.prog 38 #[.pointer (some ⟨b, 0, none⟩), .int .i64 10, .int .u8 (c.toNat : Int)] w fun e w' => e = .returned (.bool false) ∧ w' = w) := by have hh := isKey_any h 10 (by omega) c; rw [h10] at hh; exact hh
  have HK12 : Hid (Calls Tryd.prog 38 #[.pointer (some ⟨b, 0, none⟩), .int .i64 12, .int .u8 (c.toNat : Int)] w fun e w' => e = .returned (.bool false) ∧ w' = w) := by have hh := isKey_any h 12 (by omega) c; rw [h12] at hh; exact hh
  have HK11 : Hid (Calls Tryd.prog 38 #[.pointer (some ⟨b, 0, none⟩), .int .i64 11, .int .u8 (c.toNat : Int)] w fun e w' => e = .returned (.bool false) ∧ w' = w) := by have hh := isKey_any h 11 (by omega) c; rw [h11] at hh; exact hh
  have HK13 : Hid (Calls Tryd.prog 38 #[.pointer (some ⟨b, 0, none⟩), .int .i64 13, .int .u8 (c.toNat : Int)] w fun e w' => e = .returned (.bool false) ∧ w' = w) := by have hh := isKey_any h 13 (by omega) c; rw [h13] at hh; exact hh
  have HE : Hid (Calls Tryd.prog 41 #[.pointer (some ⟨b, 0, none⟩), .int .u8 (c.toNat : Int)] w fun e w' => e = .returned (.bool false) ∧ Below w.heap.size w w') := by have hh := isEnd_any h hM c; rw [he] at hh; exact hh
  have HX := Hid.mk' h
  obtain ⟨ab, nb, cb, al, nl, cl, ae, ne, ce, h⟩ := h
  have c43 := h.c43
  have c42 := h.c42
  rw [hq] at c43
  have HT := Hid.mk' h
  clear h hq h14 h10 h12 h11 h13
  go_enter Tryd.func28, Tryd.ntmps28
  go_wp2_with fail
  refine HK14.out.mono ?_
  rintro e w1 ⟨rfl, rfl⟩
  go_wp2_with fail
  refine HK10.out.mono ?_
  rintro e w1 ⟨rfl, rfl⟩
  go_wp2_with fail
  refine HK12.out.mono ?_
  rintro e w1 ⟨rfl, rfl⟩
  go_wp2_with fail
  refine HK11.out.mono ?_
  rintro e w1 ⟨rfl, rfl⟩
  go_wp2_with fail
  refine HK13.out.mono ?_
  rintro e w1 ⟨rfl, rfl⟩
  clear HT
  have HBS := Hid.mk' HX.out.base_le
  go_wp2_with fail
  refine HE.out.mono ?_
  rintro e w2 ⟨rfl, h2⟩
  have HX2 := Hid.mk' (HX.out.later h2)
  have HB2 := Hid.mk' (Below.mono h2 HBS.out)
  clear h2 HX HBS
  have HP := Hid.mk' (put_any HX2.out (by omega) (by omega) (by omega) c)
  go_wp2_with fail
  refine HP.out.mono ?_
  rintro e w3 ⟨rfl, hT, hB⟩
  have HT3 := Hid.mk' hT
  have HB3 := Hid.mk' (HB2.out.trans hB)
  clear hT hB HX2 HB2 HP
  go_wp2
  go_end0
  exact ⟨rfl, by rw [HR.out]; exact HT3.out, HB3.out⟩

set_option maxHeartbeats 8000000 in
set_option maxRecDepth 100000 in
theorem take_end {base : Nat} {w : World} {b : Nat} {k : List UInt8} {M : List Nat} {s : S} (h : TX base w b k M s) (hM : H.okW M) (hl : s.ls.length ≤ 900000) (hbl : s.buf.length < 1024) (hel : s.echo.length ≤ 50000000) (c : UInt8) (hq : s.q = false) (h14 : isK k 14 c = false) (h10 : isK k 10 c = false) (h12 : isK k 12 c = false) (h11 : isK k 11 c = false) (h13 : isK k 13 c = false) (he : isEnd k M c = true) :
    Calls Tryd.prog 28 #[.pointer (some ⟨b, 0, none⟩), .int .u8 (c.toNat : Int)] w fun e w' => Took base w b k M (stepS (KK k M) s c) e w' := by
  have HR : Hid (stepS (KK k M) s c = if (putS s c).buf = [] then putS s c else sendS (putS s c)) := stepS_end _ _ _ hq ⟨h14, h10, h12, h11, h13⟩ he
  have HK14 : Hid (Calls Tryd.prog 38 #[.pointer (some ⟨b, 0, none⟩), .int .i64 14, .int .u8 (c.toNat : Int)] w fun e w' => e = .returned (.bool false) ∧ w' = w) := by have hh := isKey_any h 14 (by omega) c; rw [h14] at hh; exact hh
  have HK10 : Hid (Calls Tryd.prog 38 #[.pointer (some ⟨b, 0, none⟩), .int .i64 10, .int .u8 (c.toNat : Int)] w fun e w' => e = .returned (.bool false) ∧ w' = w) := by have hh := isKey_any h 10 (by omega) c; rw [h10] at hh; exact hh
  have HK12 : Hid (Calls Tryd.prog 38 #[.pointer (some ⟨b, 0, none⟩), .int .i64 12, .int .u8 (c.toNat : Int)] w fun e w' => e = .returned (.bool false) ∧ w' = w) := by have hh := isKey_any h 12 (by omega) c; rw [h12] at hh; exact hh
  have HK11 : Hid (Calls Tryd.prog 38 #[.pointer (some ⟨b, 0, none⟩), .int .i64 11, .int .u8 (c.toNat : Int)] w fun e w' => e = .returned (.bool false) ∧ w' = w) := by have hh := isKey_any h 11 (by omega) c; rw [h11] at hh; exact hh
  have HK13 : Hid (Calls Tryd.prog 38 #[.pointer (some ⟨b, 0, none⟩), .int .i64 13, .int .u8 (c.toNat : Int)] w fun e w' => e = .returned (.bool false) ∧ w' = w) := by have hh := isKey_any h 13 (by omega) c; rw [h13] at hh; exact hh
  have HE : Hid (Calls Tryd.prog 41 #[.pointer (some ⟨b, 0, none⟩), .int .u8 (c.toNat : Int)] w fun e w' => e = .returned (.bool true) ∧ Below w.heap.size w w') := by have hh := isEnd_any h hM c; rw [he] at hh; exact hh
  have HX := Hid.mk' h
  obtain ⟨ab, nb, cb, al, nl, cl, ae, ne, ce, h⟩ := h
  have c43 := h.c43
  have c42 := h.c42
  rw [hq] at c43
  have HT := Hid.mk' h
  clear h hq h14 h10 h12 h11 h13
  go_enter Tryd.func28, Tryd.ntmps28
  go_wp2_with fail
  refine HK14.out.mono ?_
  rintro e w1 ⟨rfl, rfl⟩
  go_wp2_with fail
  refine HK10.out.mono ?_
  rintro e w1 ⟨rfl, rfl⟩
  go_wp2_with fail
  refine HK12.out.mono ?_
  rintro e w1 ⟨rfl, rfl⟩
  go_wp2_with fail
  refine HK11.out.mono ?_
  rintro e w1 ⟨rfl, rfl⟩
  go_wp2_with fail
  refine HK13.out.mono ?_
  rintro e w1 ⟨rfl, rfl⟩
  clear HT
  have HBS := Hid.mk' HX.out.base_le
  go_wp2_with fail
  refine HE.out.mono ?_
  rintro e w2 ⟨rfl, h2⟩
  have HX2 := Hid.mk' (HX.out.later h2)
  have HB2 := Hid.mk' (Below.mono h2 HBS.out)
  clear h2 HX HBS
  have HP := Hid.mk' (put_any HX2.out (by omega) (by omega) (by omega) c)
  go_wp2_with fail
  refine HP.out.mono ?_
  rintro e w3 ⟨rfl, hT, hB⟩
  have HT3 := Hid.mk' hT
  have HB3 := Hid.mk' (HB2.out.trans hB)
  clear hT hB HX2 HB2 HP
  have HS := Hid.mk' (send_any HT3.out (by have := putS_ls s c; omega))
  by_cases hn : (putS s c).buf = []
  · rw [if_pos hn] at HR
    obtain ⟨ab3, nb3, cb3, al3, nl3, cl3, ae3, ne3, ce3, h3⟩ := HT3.out
    have d42 := h3.c42
    obtain rfl : nb3 = 0 := by have := h3.eb; rw [hn] at this; exact this
    clear h3 hn HS
    go_wp2
    go_end0
    exact ⟨rfl, by rw [HR.out]; exact HT3.out, HB3.out⟩
  · rw [if_neg hn] at HR
    obtain ⟨ab3, nb3, cb3, al3, nl3, cl3, ae3, ne3, ce3, h3⟩ := HT3.out
    have d42 := h3.c42
    have hn3 : 0 < nb3 := by
      have := h3.eb
      have h0 : (putS s c).buf.length ≠ 0 := fun e => hn (List.length_eq_zero_iff.1 e)
      omega
    clear h3 hn
    go_wp2_with fail
    refine HS.out.mono ?_
    rintro e w4 ⟨rfl, hT, hB⟩
    go_wp2
    go_end0
    exact ⟨rfl, by rw [HR.out]; exact hT, HB3.out.trans hB⟩

theorem take_any {base : Nat} {w : World} {b : Nat} {k : List UInt8} {M : List Nat} {s : S} (h : TX base w b k M s) (hM : H.okW M) (hl : s.ls.length ≤ 900000) (hbl : s.buf.length < 1024) (hel : s.echo.length ≤ 50000000) (c : UInt8) :
    Calls Tryd.prog 28 #[.pointer (some ⟨b, 0, none⟩), .int .u8 (c.toNat : Int)] w fun e w' => Took base w b k M (stepS (KK k M) s c) e w' := by
  cases hq : s.q with
  | true => exact take_q h hl hbl hel c hq
  | false =>
    cases h14 : isK k 14 c with
    | true => exact take_quote h c hq h14
    | false =>
      cases h10 : isK k 10 c with
      | true => exact take_char h hbl hel c hq h14 h10
      | false =>
        cases h12 : isK k 12 c with
        | true => exact take_word h hbl hel c hq h14 h10 h12
        | false =>
          cases h11 : isK k 11 c with
          | true => exact take_line h hbl hel c hq h14 h10 h12 h11
          | false =>
            cases h13 : isK k 13 c with
            | true => exact take_show h hbl hel c hq h14 h10 h12 h11 h13
            | false =>
              cases he : isEnd k M c with
              | true => exact take_end h hM hl hbl hel c hq h14 h10 h12 h11 h13 he
              | false => exact take_put h hM hl hbl hel c hq h14 h10 h12 h11 h13 he
end Go.Proofs.YtomgnnbcaficaaaDoor.L
