/-
  Contracts of cut, over an editor in memory, of bytes.TrimRight at a blank, bytes.LastIndexByte and wordStart; conditions: bytes that lie where a slice says.
-/
import Derived.Test.YtomgnnbcaficaaaDoorLPut
import Derived.Deep.LoopGhost
namespace Go.Proofs.YtomgnnbcaficaaaDoor.L
open Go.RowKit Go.Lib Go.Proofs.YtomgnnbcaficaaaDoor Go.Proofs.YtomgnnbcaficaaaDoor.W Go.Proofs.YtomgnnbcaficaaaDoor.Q

theorem rub_succ (n : Nat) : rub (n + 1) = rub n ++ [8, 32, 8] := by
  induction n with
  | zero => rfl
  | succ n ih =>
    show 8 :: 32 :: 8 :: rub (n + 1) = (8 :: 32 :: 8 :: rub n) ++ [8, 32, 8]
    rw [ih]
    rfl

def CSt (base : Nat) (w : World) (b : Nat) (k : List UInt8) (M : List Nat) (s : S) (N : Nat) (g : Nat) (v : Value) (wr : World) : Prop :=
  ∃ j : Nat, j ≤ N ∧ N - j ≤ g ∧ v = .int .i64 (j : Int) ∧ Hid (TX base wr b k M ⟨s.buf, s.q, s.ls, s.echo ++ rub j⟩) ∧ Hid (Below base w wr)

set_option maxHeartbeats 4000000 in
set_option maxRecDepth 100000 in
theorem cut_any {base : Nat} {w : World} {b : Nat} {k : List UInt8} {M : List Nat} {s : S} (h : TX base w b k M s) (hbl : s.buf.length ≤ 1000000) (hel : s.echo.length ≤ 50000000000) (m : Nat) (hm : m ≤ s.buf.length) :
    Calls Tryd.prog 39 #[.pointer (some ⟨b, 0, none⟩), .int .i64 (m : Int)] w fun e w' => e = .returned (.tuple #[]) ∧ TX base w' b k M (cutS s m) ∧ Below base w w' := by
  have HST : Hid (CSt base w b k M s (s.buf.length - m) (s.buf.length - m) (.int .i64 0) w) := ⟨0, Nat.zero_le _, by omega, rfl, by rw [show rub 0 = [] from rfl, List.append_nil]; exact h, Below.refl _ _⟩
  have HE : Hid (∀ j, j ≤ s.buf.length - m → (s.echo ++ rub j).length + [8, 32, 8].length ≤ 100000000000) := fun j hj => by rw [List.length_append, rub_len]; simp only [List.length_cons, List.length_nil]; omega
  have HR : Hid (∀ wr, TX base wr b k M ⟨s.buf.take m, s.q, s.ls, s.echo ++ rub (s.buf.length - m)⟩ → TX base wr b k M (cutS s m)) := fun wr h => h
  obtain ⟨ab, nb, cb, al, nl, cl, ae, ne, ce, h⟩ := h
  have c42 := h.c42
  have hnb := h.eb
  have hm2 : m ≤ nb := by omega
  have hf := h.ob.form
  have hcb : nb ≤ cb := by
    rcases hf with ⟨e, e2⟩ | ⟨g, c, e, _, _, hc⟩
    · omega
    · simp only [Value.slice.injEq] at e; omega
  have hK : Hid (nb - m = s.buf.length - m) := by rw [Hid, hnb]
  have hM := Hid.mk' hm
  have hNb : s.buf.length - m ≤ 1000000 := by omega
  clear h hf hnb hbl hel hm
  generalize hN : s.buf.length - m = N at *
  clear hN
  go_enter Tryd.func39, Tryd.ntmps39
  go_wp2_with (refine wpList_from rfl 48 5 _ _ rfl Tryd.underlying48 sizeU8 ab nb cb m rfl rfl hm2 ?_)
  intro ad' k' c' hk'
  have hk2 : k' = N := hk'.out.trans hK.out
  subst hk2
  clear hk' hK c42 hm2 hcb
  go_wp2_with fail
  go_loopg [11] k' (fun g s11 wr => CSt base w b k M s k' g s11 wr)
  case atStart => exact HST.out
  case round =>
    obtain ⟨j, hj, hg, rfl, HT, HB⟩ := hrel
    have HG := Hid.mk' hg
    have HJ := Hid.mk' hj
    clear hg HST
    by_cases hlt : j < k'
    · obtain ⟨ab, nb, cb, al, nl, cl, ae, ne, ce, h⟩ := HT.out
      have c45 := h.c45
      have f45 := h.fr 45
      have HT1 := Hid.mk' h
      clear h HT hj
      go_wp2_with (refine wpList_echo rfl HT1.out _ _ 9 rfl rfl (.string { data := #[8, 32, 8] }) rfl 3 [8, 32, 8] (src_str _ _) (HE.out j HJ.out) ?_)
      intro ae2 ne2 ce2 w2 e45 g45 e42 T2 B2
      have HB2 := Hid.mk' (HB.out.trans B2.out)
      have HT2 : Hid (TX base (w2.setCell ⟨b, 45, none⟩ (.slice ae2 ne2 ce2)) b k M ⟨s.buf, s.q, s.ls, s.echo ++ rub (j + 1)⟩) := ⟨_, _, _, _, _, _, _, _, _, by have h2 := T2.out; rw [rub_succ]; first | exact h2 | (rw [← List.append_assoc]; exact h2) | (rw [List.append_assoc] at h2; exact h2)⟩
      clear T2 B2 HT1 HB
      go_wp2
      go_roundg (k' - (j + 1))
      case measure => have := HG.out; omega
      case rel => exact ⟨j + 1, by omega, Nat.le_refl _, by go_num, HT2, HB2⟩
    · obtain rfl : j = k' := by omega
      obtain ⟨ab, nb, cb, al, nl, cl, ae, ne, ce, h⟩ := HT.out
      have c42 := h.c42
      have f42 := h.fr 42
      have hnb : nb = s.buf.length := h.eb
      have hm2 : m ≤ nb := by rw [hnb]; exact hM.out
      have hmc : m ≤ cb := by
        rcases h.ob.form with ⟨e, e2⟩ | ⟨g, c, e, _, _, hc⟩
        · omega
        · simp only [Value.slice.injEq] at e; omega
      have HT1 := Hid.mk' h
      have hlo := Hid.mk' h.lo
      have HM2 := Hid.mk' hm2
      clear h HT hj hnb hm2
      go_wp2_with (refine wpList_upto rfl 48 5 _ _ rfl Tryd.underlying48 sizeU8 ab nb cb m rfl rfl hmc ?_)
      go_end0
      exact ⟨rfl, HR.out _ ⟨_, _, _, _, _, _, _, _, _, HT1.out.cutBuf HM2.out⟩, HB.out.setCell (p := ⟨b, 42, none⟩) hlo.out _⟩

/-- bytes that lie where a slice says -/
def RdB (w : World) (ad : Option Addr) (l : List UInt8) : Prop := l = [] ∨ ∃ g, ad = some ⟨g, 0, none⟩ ∧ ∀ j (h : j < l.length), w.cell? ⟨g, j, none⟩ = some (.int .u8 ((l[j]'h).toNat : Int))
theorem TS.rd {base : Nat} {w : World} {b : Nat} {k : List UInt8} {M : List Nat} {ab : Option Addr} {nb cb : Nat} {al : Option Addr} {nl cl : Nat} {ae : Option Addr} {ne ce : Nat} {s : S} (h : TS base w b k M ab nb cb al nl cl ae ne ce s) : RdB w ab s.buf ∧ nb ≤ cb := by
  rcases h.ob.form with ⟨e, e2⟩ | ⟨g, c, e, _, _, hc⟩
  · simp only [Value.slice.injEq] at e
    exact ⟨.inl (List.length_eq_zero_iff.1 (by have := h.eb; omega)), by omega⟩
  · simp only [Value.slice.injEq] at e
    obtain ⟨rfl, _, rfl⟩ := e
    refine ⟨.inr ⟨g, rfl, fun j hj => ?_⟩, hc⟩
    have := h.ob.cells (g := g) rfl j (.int .u8 ((s.buf[j]'hj).toNat : Int)) (by unfold bcells; rw [List.getElem?_map, List.getElem?_eq_getElem hj]; rfl)
    have hadd : (⟨g, 0, none⟩ : Addr).add j = ⟨g, j, none⟩ := by unfold Addr.add; split <;> simp_all
    rw [hadd] at this
    exact this

set_option maxHeartbeats 4000000 in
set_option maxRecDepth 100000 in
theorem trimRightByte_any (w : World) (ad : Option Addr) (c : Nat) (l : List UInt8) (hr : RdB w ad l) (N : Nat) (hN : N = l.length) (hc : N ≤ c) (hb : N ≤ 1000000) :
    Calls Tryd.prog 66 #[.slice ad N c, .int .u8 32] w fun e w' => e = .returned (.slice ad (tz l N) c) ∧ w' = w := by
  have HZ := Hid.mk' (tz_zero l)
  have HS : Hid (∀ n (h : n < l.length), tz l (n + 1) = if l[n]'h = 32 then tz l n else n + 1) := fun n h => tz_succ l n h
  have HC : Hid (∀ n (h : n < l.length), ∃ g, ad = some ⟨g, 0, none⟩ ∧ w.cell? ⟨g, n, none⟩ = some (.int .u8 ((l[n]'h).toNat : Int))) := fun n h => by
    rcases hr with e | ⟨g, e, hcl⟩
    · subst e; simp at h
    · exact ⟨g, e, hcl n h⟩
  have HNL := Hid.mk' hN
  clear hr
  generalize hR : tz l N = R
  have HST : Hid (tz l N = R) := hR
  clear hR hN
  go_enter Tryd.func66, Tryd.ntmps66
  go_wp2_with fail
  go_loopg [0] N (fun g s0 wr => ∃ n, n ≤ N ∧ n ≤ g ∧ s0 = .slice ad n c ∧ Hid (tz l n = R) ∧ wr = w)
  case atStart => exact ⟨N, Nat.le_refl _, Nat.le_refl _, rfl, HST, rfl⟩
  case round =>
    obtain ⟨n, hn, hg, rfl, HSZ, rfl⟩ := hrel
    clear HST
    cases n with
    | zero =>
      have HQ : Hid (R = 0) := HSZ.out.symm.trans HZ.out
      clear HS HC HSZ
      go_wp2
      go_ret
      exact ⟨by rw [HQ.out]; rfl, rfl⟩
    | succ m =>
      have hml : m < l.length := by have := HNL.out; omega
      obtain ⟨g0, rfl, e0⟩ := HC.out m hml
      have hs := HS.out m hml
      by_cases h0 : l[m]'hml = 32
      · rw [if_pos h0] at hs
        rw [h0] at e0
        have HN2 : Hid (tz l m = R) := by rw [Hid, ← hs]; exact HSZ.out
        have hmc : m ≤ c := by omega
        clear hs h0 HS HC HSZ hml
        go_wp2_with (refine wpList_upto rfl 48 5 _ _ rfl Tryd.underlying48 sizeU8 (some ⟨g0, 0, none⟩) (m + 1) c m rfl (by simp [Act.eval]) hmc ?_)
        go_roundg m
        case measure => omega
        case rel => exact ⟨m, by omega, Nat.le_refl _, rfl, HN2, rfl⟩
      · rw [if_neg h0] at hs
        have HQ : Hid (R = m + 1) := by rw [Hid, ← HSZ.out, hs]
        have h0' : ¬ ((l[m]'hml).toNat : Int) = 32 := fun e => h0 (by
          apply UInt8.toNat_inj.1
          have : (32 : UInt8).toNat = 32 := rfl
          omega)
        generalize ((l[m]'hml).toNat : Int) = y at *
        clear hs h0 HS HC HSZ hml
        go_wp2
        go_ret
        exact ⟨by rw [HQ.out]; rfl, rfl⟩
end Go.Proofs.YtomgnnbcaficaaaDoor.L
