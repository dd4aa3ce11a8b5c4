/-
  Contract of farref.token: the token at a stream's front and its bytes' number, 0 if it isn't whole; conditions: at most 8000000 bytes.
-/
import Derived.Test.YtmcoliblkkploaaDoorLaw6
import Derived.Test.YtmcoliblkkploaaDoorMgd
namespace Go.Proofs.YtmcoliblkkploaaDoor
open Go.RowKit

theorem words_byte (o c : UInt8) (r d : List UInt8) (n : Nat) (h : c.toNat ≠ 255) : words o (c :: r) d n = words o r (d ++ [c]) (n + 1) := by
  cases r with
  | nil => simp [words, h]
  | cons c2 r => rw [words, if_neg h]
def tokOf : Sum (Bool × List UInt8) (Tk × Nat) → Tk × Nat
  | .inl _ => (zeroT, 0)
  | .inr p => p
def tokenOf : Sum Wr (Tk × Nat) → Tk × Nat
  | .inl _ => (zeroT, 0)
  | .inr p => p
def TokSaid (S : ByteArray) (p : Tk × Nat) : Prop := ∀ w : World, Calls Tryd.prog 33 #[.string S] w fun e w' => e = .returned (.tuple #[p.1.val, .int .i64 (p.2 : Int)]) ∧ Below w.heap.size w w'

set_option maxHeartbeats 4000000 in
set_option maxRecDepth 100000 in
theorem token_data (S : ByteArray) (c : UInt8) (hl : S.size ≤ 8000000) (h1 : 1 ≤ S.size) (e0 : S[0]'(by omega) = c) (hc : c.toNat ≠ 255) (hx : S.extract 0 1 = ⟨#[c]⟩) : TokSaid S (D [c], 1) := by
  intro w
  have q0 : ((c.toNat : Int) != 255) = true := by rw [bne_iff_ne]; omega
  clear hc
  simp only [D, Tk.val]
  go_enter Tryd.func33, Tryd.ntmps33
  go_wp2
  exact bodyPost_ret (v := .tuple #[.agg #[.int .i64 1, .int .i64 0, .int .i64 0, .string ⟨#[c]⟩], .int .i64 1]) (by simp [results, Tryd.results33, go_sem]) rfl ⟨rfl, (Below.refl _ _).alloc (Nat.le_refl _) _⟩

set_option maxHeartbeats 4000000 in
set_option maxRecDepth 100000 in
theorem token_one (S : ByteArray) (c : UInt8) (h1 : S.size = 1) (e0 : S[0]'(by omega) = c) (hc : c.toNat = 255) : TokSaid S (zeroT, 0) := by
  intro w
  have q0 : ((c.toNat : Int) != 255) = false := by simp; omega
  clear hc
  simp only [zeroT, Tk.val]
  go_enter Tryd.func33, Tryd.ntmps33
  go_wp2
  exact bodyPost_ret (v := .tuple #[.agg #[.int .i64 0, .int .i64 0, .int .i64 0, .string ⟨#[]⟩], .int .i64 0]) (by simp [results, Tryd.results33, go_sem]) rfl ⟨rfl, (Below.refl _ _).alloc (Nat.le_refl _) _⟩

set_option maxHeartbeats 4000000 in
set_option maxRecDepth 100000 in
theorem token_two (S : ByteArray) (c c2 : UInt8) (hl : S.size ≤ 8000000) (h1 : 2 ≤ S.size) (e0 : S[0]'(by omega) = c) (e1 : S[1]'(by omega) = c2) (hc : c.toNat = 255) (h2 : c2.toNat = 255) (hx : S.extract 0 1 = ⟨#[c]⟩) : TokSaid S (D [c], 2) := by
  intro w
  have b2 : (c2.toNat : Int) ≤ 255 := by have := c2.toNat_lt; omega
  have q0 : ((c.toNat : Int) != 255) = false := by simp; omega
  have q1 : (c2.toNat : Int) = 255 := by omega
  clear hc h2
  simp only [D, Tk.val]
  go_enter Tryd.func33, Tryd.ntmps33
  go_wp2
  exact bodyPost_ret (v := .tuple #[.agg #[.int .i64 1, .int .i64 0, .int .i64 0, .string ⟨#[c]⟩], .int .i64 2]) (by simp [results, Tryd.results33, go_sem]) rfl ⟨rfl, (Below.refl _ _).alloc (Nat.le_refl _) _⟩

set_option maxHeartbeats 4000000 in
set_option maxRecDepth 100000 in
theorem token_low (S : ByteArray) (c c2 : UInt8) (hl : S.size ≤ 8000000) (h1 : 2 ≤ S.size) (e0 : S[0]'(by omega) = c) (e1 : S[1]'(by omega) = c2) (hc : c.toNat = 255) (h2 : c2.toNat < 240) : TokSaid S (⟨5, c2.toNat, 0, []⟩, 2) := by
  intro w
  have b2 : (c2.toNat : Int) ≤ 255 := by have := c2.toNat_lt; omega
  have q0 : ((c.toNat : Int) != 255) = false := by simp; omega
  have q1 : ((c2.toNat : Int) == 255) = false := by simp; omega
  have q2 : (c2.toNat : Int) < 240 := by omega
  clear hc h2
  simp only [Tk.val]
  go_enter Tryd.func33, Tryd.ntmps33
  go_wp2
  exact bodyPost_ret (v := .tuple #[.agg #[.int .i64 5, .int .i64 (c2.toNat : Int), .int .i64 0, .string ⟨#[]⟩], .int .i64 2]) (by simp [results, Tryd.results33, go_sem]) rfl ⟨rfl, (Below.refl _ _).alloc (Nat.le_refl _) _⟩

set_option maxHeartbeats 4000000 in
set_option maxRecDepth 100000 in
theorem token_cmd (S : ByteArray) (c c2 : UInt8) (hl : S.size ≤ 8000000) (h1 : 2 ≤ S.size) (e0 : S[0]'(by omega) = c) (e1 : S[1]'(by omega) = c2) (hc : c.toNat = 255) (h2 : 240 ≤ c2.toNat) (h3 : c2.toNat < 250) : TokSaid S (⟨2, c2.toNat, 0, []⟩, 2) := by
  intro w
  have b2 : (c2.toNat : Int) ≤ 255 := by have := c2.toNat_lt; omega
  have q0 : ((c.toNat : Int) != 255) = false := by simp; omega
  have q1 : ((c2.toNat : Int) == 255) = false := by simp; omega
  have q2 : ¬ (c2.toNat : Int) < 240 := by omega
  have q3 : (c2.toNat : Int) < 250 := by omega
  clear hc h2 h3
  simp only [Tk.val]
  go_enter Tryd.func33, Tryd.ntmps33
  go_wp2
  exact bodyPost_ret (v := .tuple #[.agg #[.int .i64 2, .int .i64 (c2.toNat : Int), .int .i64 0, .string ⟨#[]⟩], .int .i64 2]) (by simp [results, Tryd.results33, go_sem]) rfl ⟨rfl, (Below.refl _ _).alloc (Nat.le_refl _) _⟩

set_option maxHeartbeats 4000000 in
set_option maxRecDepth 100000 in
theorem token_short (S : ByteArray) (c c2 : UInt8) (h1 : S.size = 2) (e0 : S[0]'(by omega) = c) (e1 : S[1]'(by omega) = c2) (hc : c.toNat = 255) (h2 : 250 ≤ c2.toNat) (h3 : c2.toNat ≠ 255) : TokSaid S (zeroT, 0) := by
  intro w
  have b2 : (c2.toNat : Int) ≤ 255 := by have := c2.toNat_lt; omega
  have q0 : ((c.toNat : Int) != 255) = false := by simp; omega
  have q1 : ((c2.toNat : Int) == 255) = false := by simp; omega
  have q2 : ¬ (c2.toNat : Int) < 240 := by omega
  have q3 : ¬ (c2.toNat : Int) < 250 := by omega
  clear hc h2 h3
  simp only [zeroT, Tk.val]
  go_enter Tryd.func33, Tryd.ntmps33
  go_wp2
  exact bodyPost_ret (v := .tuple #[.agg #[.int .i64 0, .int .i64 0, .int .i64 0, .string ⟨#[]⟩], .int .i64 0]) (by simp [results, Tryd.results33, go_sem]) rfl ⟨rfl, (Below.refl _ _).alloc (Nat.le_refl _) _⟩

set_option maxHeartbeats 4000000 in
set_option maxRecDepth 100000 in
theorem token_neg (S : ByteArray) (c c2 o : UInt8) (hl : S.size ≤ 8000000) (h1 : 3 ≤ S.size) (e0 : S[0]'(by omega) = c) (e1 : S[1]'(by omega) = c2) (e2 : S[2]'(by omega) = o) (hc : c.toNat = 255) (h2 : 250 < c2.toNat) (h3 : c2.toNat ≠ 255) : TokSaid S (⟨3, c2.toNat, o.toNat, []⟩, 3) := by
  intro w
  have b2 : (c2.toNat : Int) ≤ 255 := by have := c2.toNat_lt; omega
  have b3 : (o.toNat : Int) ≤ 255 := by have := o.toNat_lt; omega
  have q0 : ((c.toNat : Int) != 255) = false := by simp; omega
  have q1 : ((c2.toNat : Int) == 255) = false := by simp; omega
  have q2 : ¬ (c2.toNat : Int) < 240 := by omega
  have q3 : ¬ (c2.toNat : Int) < 250 := by omega
  have q4 : (250 : Int) < (c2.toNat : Int) := by omega
  clear hc h2 h3
  simp only [Tk.val]
  go_enter Tryd.func33, Tryd.ntmps33
  go_wp2
  exact bodyPost_ret (v := .tuple #[.agg #[.int .i64 3, .int .i64 (c2.toNat : Int), .int .i64 (o.toNat : Int), .string ⟨#[]⟩], .int .i64 3]) (by simp [results, Tryd.results33, go_sem]) rfl ⟨rfl, (Below.refl _ _).alloc (Nat.le_refl _) _⟩

def LState (L : List UInt8) (o : UInt8) (w : World) (g : Nat) (s5 s6 : Value) (wr : World) : Prop :=
  ∃ (k : Nat) (d : List UInt8), 3 ≤ k ∧ k ≤ L.length ∧ L.length - k ≤ g ∧ d.length ≤ k ∧ s5 = .string ⟨d.toArray⟩ ∧ s6 = .int .i64 (k : Int) ∧ words o (L.drop 3) [] 3 = words o (L.drop k) d k ∧ wr = w

set_option maxHeartbeats 8000000 in
set_option maxRecDepth 100000 in
theorem token_sub (S : ByteArray) (L : List UInt8) (c c2 o : UInt8) (hsz : S.size = L.length) (HG : Hid (∀ k (h : k < L.length) (h2 : k < S.size), S[k] = L[k])) (HX : Hid (∀ k (h : k < L.length), S.extract k (k + 1) = ⟨[L[k]].toArray⟩)) (hl : L.length ≤ 8000000) (h1 : 3 ≤ L.length) (e0 : S[0]'(by omega) = c) (e1 : S[1]'(by omega) = c2) (e2 : S[2]'(by omega) = o) (hc : c.toNat = 255) (hc2 : c2.toNat = 250) :
    TokSaid S (tokOf (words o (L.drop 3) [] 3)) := by
  intro w
  obtain ⟨P, hP⟩ : ∃ P, P = tokOf (words o (L.drop 3) [] 3) := ⟨_, rfl⟩
  rw [← hP]
  have HP := Hid.mk' hP
  clear hP
  have q0 : ((c.toNat : Int) != 255) = false := by simp; omega
  have q2 : (c2.toNat : Int) = 250 := by omega
  have b3 : (o.toNat : Int) ≤ 255 := by have := o.toNat_lt; omega
  have HS : Hid (LState L o (w.alloc (.cells #[.int .i64 0, .int .i64 0, .int .i64 0, .string ⟨#[]⟩] 34)) L.length (.string ⟨#[]⟩) (.int .i64 3) (w.alloc (.cells #[.int .i64 0, .int .i64 0, .int .i64 0, .string ⟨#[]⟩] 34))) :=
    ⟨3, [], Nat.le_refl _, h1, by omega, by simp, rfl, rfl, rfl, rfl⟩
  clear hc hc2
  have hs3 : 3 ≤ S.size := by omega
  have hs4 : S.size ≤ 8000000 := by omega
  go_enter Tryd.func33, Tryd.ntmps33
  go_wp2_with fail
  go_loopg [5, 6] L.length (fun g s5 s6 wr => LState L o (w.alloc (.cells #[.int .i64 0, .int .i64 0, .int .i64 0, .string ⟨#[]⟩] 34)) g s5 s6 wr)
  case atStart => exact HS.out
  case round =>
    obtain ⟨k, d, hk3, hkl, hg, hdk, rfl, rfl, hw, rfl⟩ := hrel
    clear HS
    have HW := Hid.mk' hw
    clear hw
    by_cases hlt : k < L.length
    · have hks : k < S.size := by omega
      have ek := HG.out k hlt hks
      have xk := HX.out k hlt
      have hdr : L.drop k = L[k] :: L.drop (k + 1) := List.drop_eq_getElem_cons hlt
      have HDR := Hid.mk' hdr
      clear hdr
      generalize L[k] = b at *
      by_cases hb : b.toNat = 255
      · have p1 : ((b.toNat : Int) == 255) = true := by simp; omega
        have HBB := Hid.mk' hb
        clear hb
        by_cases hl2 : k + 1 < L.length
        · have hks2 : k + 1 < S.size := by omega
          have ek2 := HG.out (k + 1) hl2 hks2
          have xk2 := HX.out (k + 1) hl2
          have hdr2 : L.drop (k + 1) = L[k + 1] :: L.drop (k + 2) := List.drop_eq_getElem_cons hl2
          have HDR2 := Hid.mk' hdr2
          clear hdr2
          generalize L[k + 1] = b2 at *
          have b4 : (b2.toNat : Int) ≤ 255 := by have := b2.toNat_lt; omega
          have hwd : words o (L.drop 3) [] 3 = if b2.toNat = 240 then .inr (endTok o d, k + 2) else if b2.toNat = 255 then words o (L.drop (k + 2)) (d ++ [b2]) (k + 2) else .inr (⟨5, b2.toNat, o.toNat, []⟩, k + 2) := by
            rw [HW.out, HDR.out, HDR2.out, words, if_pos HBB.out]
          by_cases h240 : b2.toNat = 240
          · have p2 : (b2.toNat : Int) = 240 := by omega
            rw [if_pos h240] at hwd
            have HWD := Hid.mk' hwd
            clear hwd h240
            by_cases hd4 : d.length ≤ 4096
            · have e : tokOf (.inr (endTok o d, k + 2)) = (⟨4, 0, o.toNat, d⟩, k + 2) := by rw [tokOf, endTok, if_pos hd4]
              have HPP := Hid.mk' (HP.out.trans ((congrArg tokOf HWD.out).trans e))
              have p3 : (d.length : Int) ≤ 4096 := by omega
              clear e
              go_wp2
              exact bodyPost_ret (v := .tuple #[.agg #[.int .i64 4, .int .i64 0, .int .i64 (o.toNat : Int), .string ⟨d.toArray⟩], .int .i64 ((k : Int) + 1 + 1)]) (by simp [results, Tryd.results33, go_sem]) rfl ⟨by rw [HPP.out]; first | rfl | (simp [Tk.val, zeroT]; omega), (Below.refl _ _).alloc (Nat.le_refl _) _⟩
            · have e : tokOf (.inr (endTok o d, k + 2)) = (⟨5, 250, o.toNat, []⟩, k + 2) := by rw [tokOf, endTok, if_neg hd4]
              have HPP := Hid.mk' (HP.out.trans ((congrArg tokOf HWD.out).trans e))
              have p3 : ¬ (d.length : Int) ≤ 4096 := by omega
              clear e
              go_wp2
              exact bodyPost_ret (v := .tuple #[.agg #[.int .i64 5, .int .i64 250, .int .i64 (o.toNat : Int), .string ⟨#[]⟩], .int .i64 ((k : Int) + 1 + 1)]) (by simp [results, Tryd.results33, go_sem]) rfl ⟨by rw [HPP.out]; first | rfl | (simp [Tk.val, zeroT]; omega), (Below.refl _ _).alloc (Nat.le_refl _) _⟩
          · have p2 : ((b2.toNat : Int) == 240) = false := by simp; omega
            rw [if_neg h240] at hwd
            by_cases h255 : b2.toNat = 255
            · rw [if_pos h255] at hwd
              have HWD := Hid.mk' hwd
              have p3 : (b2.toNat : Int) = 255 := by omega
              clear hwd h255 h240
              go_wp2
              go_roundg (L.length - (k + 2))
              case measure => omega
              case rel =>
                refine ⟨k + 2, d ++ [b2], by omega, by omega, Nat.le_refl _, by simp; omega, ?_, by go_num, HWD.out, rfl⟩
                rw [bytes_join]
            · rw [if_neg h255] at hwd
              have HPP := Hid.mk' (HP.out.trans (congrArg tokOf hwd))
              have p3 : ((b2.toNat : Int) != 255) = true := by simp; omega
              clear hwd h255 h240
              go_wp2_with fail
              go_region
              all_goals
                go_wp2
                exact bodyPost_ret (v := .tuple #[.agg #[.int .i64 5, .int .i64 (b2.toNat : Int), .int .i64 (o.toNat : Int), .string ⟨#[]⟩], .int .i64 ((k : Int) + 1 + 1)]) (by simp [results, Tryd.results33, go_sem]) rfl ⟨by rw [HPP.out]; first | rfl | (simp [Tk.val, zeroT]; omega), ((Below.refl _ _).alloc (Nat.le_refl _) _).drew⟩
        · have hkk : k + 1 = L.length := by omega
          have e : tokOf (words o (L.drop 3) [] 3) = (zeroT, 0) := by
            rw [HW.out, HDR.out, hkk, List.drop_length, words, if_pos HBB.out]; rfl
          have HPP := Hid.mk' (HP.out.trans e)
          have p2 : ((k : Int) + 1 == (S.size : Int)) = true := by simp; omega
          clear e
          go_wp2
          exact bodyPost_ret (v := .tuple #[.agg #[.int .i64 0, .int .i64 0, .int .i64 0, .string ⟨#[]⟩], .int .i64 0]) (by simp [results, Tryd.results33, go_sem]) rfl ⟨by rw [HPP.out]; first | rfl | (simp [Tk.val, zeroT]; omega), (Below.refl _ _).alloc (Nat.le_refl _) _⟩
      · have p1 : ((b.toNat : Int) == 255) = false := by simp; omega
        have HBB := Hid.mk' hb
        clear hb
        go_wp2
        go_roundg (L.length - (k + 1))
        case measure => omega
        case rel =>
          refine ⟨k + 1, d ++ [b], by omega, by omega, Nat.le_refl _, by simp; omega, ?_, by go_num, ?_, rfl⟩
          · rw [bytes_join]
          · rw [HW.out, HDR.out, words_byte _ _ _ _ _ HBB.out]
    · have hkk : k = L.length := by omega
      subst hkk
      have e : tokOf (words o (L.drop 3) [] 3) = (zeroT, 0) := by rw [HW.out, List.drop_length]; rfl
      have HPP := Hid.mk' (HP.out.trans e)
      have hnk : ¬ (L.length : Int) < (S.size : Int) := by omega
      clear e
      go_wp2
      exact bodyPost_ret (v := .tuple #[.agg #[.int .i64 0, .int .i64 0, .int .i64 0, .string ⟨#[]⟩], .int .i64 0]) (by simp [results, Tryd.results33, go_sem]) rfl ⟨by rw [HPP.out]; first | rfl | (simp [Tk.val, zeroT]; omega), (Below.refl _ _).alloc (Nat.le_refl _) _⟩

theorem at_list (L : List UInt8) (k : Nat) (_h : k < L.length) (h2 : k < (⟨L.toArray⟩ : ByteArray).size) : (⟨L.toArray⟩ : ByteArray)[k] = L[k] := rfl
theorem cut_list (L : List UInt8) (k : Nat) (h : k < L.length) : (⟨L.toArray⟩ : ByteArray).extract k (k + 1) = ⟨[L[k]].toArray⟩ := by
  apply ByteArray.ext
  rw [ByteArray.data_extract]
  apply Array.toList_inj.1
  simp only [Array.toList_extract, List.extract_eq_take_drop]
  rw [List.drop_eq_getElem_cons h, show k + 1 - k = 1 by omega]
  rfl
theorem token_any (L : List UInt8) (hl : L.length ≤ 8000000) (hne : L ≠ []) : TokSaid ⟨L.toArray⟩ (tokenOf (token L)) := by
  have hsz : ∀ l : List UInt8, (⟨l.toArray⟩ : ByteArray).size = l.length := fun l => by simp [ByteArray.size]
  match L, hne, hl with
  | c :: s, _, hl =>
    have hx : (⟨(c :: s).toArray⟩ : ByteArray).extract 0 1 = ⟨#[c]⟩ := cut_list (c :: s) 0 (by simp)
    unfold token
    dsimp only
    by_cases hc : c.toNat = 255
    · rw [if_neg (by omega)]
      match s, hl, hx with
      | [], _, _ => exact token_one _ c (by rw [hsz]; rfl) rfl hc
      | c2 :: s2, hl, hx =>
        dsimp only
        by_cases h2 : c2.toNat = 255
        · rw [if_pos h2]
          exact token_two _ c c2 (by rw [hsz]; exact hl) (by rw [hsz]; simp) rfl rfl hc h2 hx
        rw [if_neg h2]
        by_cases h3 : c2.toNat < 240
        · rw [if_pos h3]
          exact token_low _ c c2 (by rw [hsz]; exact hl) (by rw [hsz]; simp) rfl rfl hc h3
        rw [if_neg h3]
        by_cases h4 : c2.toNat < 250
        · rw [if_pos h4]
          exact token_cmd _ c c2 (by rw [hsz]; exact hl) (by rw [hsz]; simp) rfl rfl hc (by omega) h4
        rw [if_neg h4]
        match s2, hl with
        | [], _ => exact token_short _ c c2 (by rw [hsz]; rfl) rfl rfl hc (by omega) h2
        | o :: s3, hl =>
          dsimp only
          by_cases h5 : 250 < c2.toNat
          · rw [if_pos h5]
            exact token_neg _ c c2 o (by rw [hsz]; exact hl) (by rw [hsz]; simp) rfl rfl rfl hc h5 h2
          rw [if_neg h5]
          have h := token_sub ⟨(c :: c2 :: o :: s3).toArray⟩ (c :: c2 :: o :: s3) c c2 o (hsz _) (fun k h h2 => at_list _ k h h2) (fun k h => cut_list _ k h) hl (by simp) rfl rfl rfl hc (by omega)
          have h' : TokSaid ⟨(c :: c2 :: o :: s3).toArray⟩ (tokOf (words o s3 [] 3)) := h
          clear h
          generalize words o s3 [] 3 = q at h' ⊢
          cases q <;> exact h'
    · rw [if_pos hc]
      exact token_data _ c (by rw [hsz]; exact hl) (by rw [hsz]; simp) rfl hc hx
end Go.Proofs.YtmcoliblkkploaaDoor
