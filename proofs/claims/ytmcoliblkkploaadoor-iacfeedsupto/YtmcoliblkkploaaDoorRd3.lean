/-
  Contracts of the reader's methods takeByte, takeCommand, takeWord, takeWordsCommand and take: each does to the reader in memory what the plain function does; conditions: 'RS.fits'.
-/
import Derived.Test.YtmcoliblkkploaaDoorRd2
namespace Go.Proofs.YtmcoliblkkploaaDoor
open Go.RowKit

def Does (f : Nat) (F : RS → UInt8 → RS) : Prop :=
  ∀ (base : Nat) (w : World) (b : Nat) (r : RS) (vw vd vt : Value), Rd base w b r vw vd vt → r.fits → ∀ c : UInt8,
    Calls Tryd.prog f #[.pointer (some ⟨b, 0, none⟩), .int .u8 (c.toNat : Int)] w fun e w' => e = .returned (.tuple #[]) ∧ RdE base w' b (F r c) ∧ Below base w w'

theorem takeByte_any : Does 39 RS.takeByte := by
  intro base w b r vw vd vt h hf c
  by_cases hc : c.toNat = 255
  · rw [RS.takeByte, if_pos hc, hc]
    refine (takeByte_255 base w b r vw vd vt h).mono fun e w' ⟨he, h1, h2⟩ => ⟨he, ⟨_, _, _, h1⟩, h2⟩
  · rw [RS.takeByte, if_neg hc]
    refine (takeByte_data base w b r vw vd vt h c (by omega) hf).mono fun e w' ⟨he, vd', h1, h2⟩ => ⟨he, ⟨_, _, _, h1⟩, h2⟩

set_option maxHeartbeats 400000 in
theorem takeWord_any : Does 42 RS.takeWord := by
  intro base w b r vw vd vt h hf c
  have c0 := h.c0
  have f0 := h.fr 0
  have hlo := h.lo
  by_cases hc : c.toNat = 255
  · have hcb : ((c.toNat : Int) == 255) = true := by rw [hc]; rfl
    have HC := Hid.mk' hc
    clear hc
    go_enter Tryd.func42, Tryd.ntmps42
    go_wp2
    refine bodyPost_ret (results_none rfl _ _ _) rfl ?_
    refine ⟨rfl, ?_, (Below.refl _ _).setCell h.lo _⟩
    rw [RS.takeWord, if_pos HC.out]
    refine ⟨_, _, _, h.turn ?_ (fun k hk _ => set_other _ _ _ _ hk) rfl rfl rfl⟩
    rw [setCell_block h.blk]
    rfl
  · have hcb : ((c.toNat : Int) == 255) = false := beq_eq_false_iff_ne.2 (by omega)
    have HC := Hid.mk' hc
    clear hc
    go_enter Tryd.func42, Tryd.ntmps42
    go_wp2_with (go_at_call 54; refine (putWord_any base w b r vw vd vt h hf c).mono ?_; rintro e w' ⟨rfl, h1, h2⟩)
    go_end0
    refine ⟨rfl, ?_, h2⟩
    rw [RS.takeWord, if_neg HC.out]
    exact h1

set_option maxHeartbeats 400000 in
theorem isNegCmd_yes (n : Int) (w : World) (h1 : 251 ≤ n) (h2 : n ≤ 254) : Calls Tryd.prog 44 #[.int .i64 n] w fun e w' => e = .returned (.bool true) ∧ w = w' := by
  go_enter Tryd.func44, Tryd.ntmps44
  go_wp2
  go_ret
  exact ⟨rfl, rfl⟩
set_option maxHeartbeats 400000 in
theorem isNegCmd_no (n : Int) (w : World) (h : ¬ (251 ≤ n ∧ n ≤ 254)) : Calls Tryd.prog 44 #[.int .i64 n] w fun e w' => e = .returned (.bool false) ∧ w = w' := by
  by_cases h1 : 251 ≤ n
  · have h2 : ¬ n ≤ 254 := fun e => h ⟨h1, e⟩
    clear h
    go_enter Tryd.func44, Tryd.ntmps44
    go_wp2
    go_ret
    exact ⟨rfl, rfl⟩
  · clear h
    go_enter Tryd.func44, Tryd.ntmps44
    go_wp2
    go_ret
    exact ⟨rfl, rfl⟩
set_option maxHeartbeats 400000 in
theorem isPlainCmd_yes (n : Int) (w : World) (h1 : 240 ≤ n) (h2 : n < 250) : Calls Tryd.prog 52 #[.int .i64 n] w fun e w' => e = .returned (.bool true) ∧ w = w' := by
  go_enter Tryd.func52, Tryd.ntmps52
  go_wp2
  go_ret
  exact ⟨rfl, rfl⟩
set_option maxHeartbeats 400000 in
theorem isPlainCmd_no (n : Int) (w : World) (h : ¬ (240 ≤ n ∧ n < 250)) : Calls Tryd.prog 52 #[.int .i64 n] w fun e w' => e = .returned (.bool false) ∧ w = w' := by
  by_cases h1 : 240 ≤ n
  · have h2 : ¬ n < 250 := fun e => h ⟨h1, e⟩
    clear h
    go_enter Tryd.func52, Tryd.ntmps52
    go_wp2
    go_ret
    exact ⟨rfl, rfl⟩
  · clear h
    go_enter Tryd.func52, Tryd.ntmps52
    go_wp2
    go_ret
    exact ⟨rfl, rfl⟩

theorem Rd.mode {base : Nat} {w : World} {b : Nat} {r : RS} {vw vd vt : Value} (h : Rd base w b r vw vd vt) (m : Int) : Rd base (w.setCell ⟨b, 0, none⟩ (.int .i64 m)) b { r with mode := m } vw vd vt := by
  refine h.turn ?_ (fun k hk _ => set_other _ _ _ _ hk) rfl rfl rfl
  rw [setCell_block h.blk]
  rfl
theorem Rd.cmd {base : Nat} {w : World} {b : Nat} {r : RS} {vw vd vt : Value} (h : Rd base w b r vw vd vt) (m : Int) : Rd base (w.setCell ⟨b, 1, none⟩ (.int .i64 m)) b { r with cmd := m } vw vd vt := by
  refine h.turn ?_ (fun k hk _ => set_other _ _ _ _ hk) rfl rfl rfl
  rw [setCell_block h.blk]
  rfl
theorem Rd.opt {base : Nat} {w : World} {b : Nat} {r : RS} {vw vd vt : Value} (h : Rd base w b r vw vd vt) (m : Int) : Rd base (w.setCell ⟨b, 2, none⟩ (.int .i64 m)) b { r with opt := m } vw vd vt := by
  refine h.turn ?_ (fun k hk _ => set_other _ _ _ _ hk) rfl rfl rfl
  rw [setCell_block h.blk]
  rfl

set_option maxHeartbeats 800000 in
theorem takeCommand_255 (base : Nat) (w : World) (b : Nat) (r : RS) (vw vd vt : Value) (h : Rd base w b r vw vd vt) (hf : r.fits) :
    Calls Tryd.prog 40 #[.pointer (some ⟨b, 0, none⟩), .int .u8 255] w fun e w' => e = .returned (.tuple #[]) ∧ RdE base w' b { r with mode := 0, data := r.data ++ [255] } ∧ Below base w w' := by
  obtain ⟨i0, hi, hz0, hz1, hz2⟩ := info_parts Tryd.info5
  obtain ⟨hf1, hf2, hf3⟩ := hf
  have c0 := h.c0
  have f0 := h.fr 0
  have c6 := h.c6
  have f6 := h.fr 6
  have hlo := h.lo
  have hm := h.mode 0
  have hblt : b < w.heap.size := h.lt
  go_enter Tryd.func40, Tryd.ntmps40
  go_wp2_with (at_builtin; refine wpList_append_R _ rfl (.tmp 22) (.tmp 24) 45 rfl base 5 i0 (.int .u8 0) 1 1 Tryd.underlying45 hi hz0 hz1 hz2 rfl (by decide) vd r.data.length (bcells r.data) rfl (hm.od.keptAt fun k hk => Below.heap_alloc _ _ _ (hm.od.lt k hk).2) ⟨w.heap.size, 0, none⟩ 1 1 [.int .u8 255] rfl rfl ?c1 (bcells_one 255) (by decide) ?c3 ?c4 ?c5 (w.heap.size + 1) (by simp) ?_)
  case c1 => exact fun j u hu => World.news_of_block (by simpa using (MapKept.heap_alloc (w.setCell ⟨b, 0, none⟩ (.int .i64 0)) _).1) j u hu
  case c3 => unfold maxLen; omega
  case c4 => omega
  case c5 => simp; omega
  intro g cap w1 hown hgr hat hlt
  have hb2 := (hgr.block b (by simp; omega) (Ne.symm hm.bd)).trans ((Below.heap_alloc _ _ b hm.lt).trans hm.blk)
  obtain ⟨k0, k1, k2, k3, k4, k5, k6, k7, kf⟩ := blkCells hb2
  have H := Hid.mk' (hm.grewD 255 _ hown hgr (by simpa using hat))
  clear hb2
  go_wp2
  go_end0
  refine ⟨rfl, ⟨_, _, _, H.out.1⟩, ?_⟩
  exact ((Below.refl base w).setCell hlo _).trans H.out.2

set_option maxHeartbeats 3000000 in
theorem takeCommand_any : Does 40 RS.takeCommand := by
  intro base w b r vw vd vt h hf c
  by_cases hc : c.toNat = 255
  · rw [RS.takeCommand, if_pos hc]
    have e : c = 255 := by apply UInt8.toNat_inj.1; rw [hc]; rfl
    subst e
    exact takeCommand_255 base w b r vw vd vt h hf
  have hlt := byte_lt c
  have hge : (0 : Int) ≤ (c.toNat : Int) := Int.natCast_nonneg _
  have c0 := h.c0
  have f0 := h.fr 0
  have c1 := h.c1
  have f1 := h.fr 1
  have hlo := h.lo
  have hcb : ((c.toNat : Int) == 255) = false := beq_eq_false_iff_ne.2 (by omega)
  rw [RS.takeCommand, if_neg hc]
  by_cases h250 : c.toNat = 250
  · have h2b : ((c.toNat : Int) == 250) = true := by rw [h250]; rfl
    rw [if_pos h250]
    clear h250 hc
    go_enter Tryd.func40, Tryd.ntmps40
    go_wp2
    go_end0
    exact ⟨rfl, ⟨_, _, _, h.mode 3⟩, (Below.refl base w).setCell hlo _⟩
  have h2b : ((c.toNat : Int) == 250) = false := beq_eq_false_iff_ne.2 (by omega)
  rw [if_neg h250]
  by_cases h251 : 251 ≤ c.toNat
  · rw [if_pos h251]
    have q1 : (251 : Int) ≤ (c.toNat : Int) := by omega
    have q2 : (c.toNat : Int) ≤ 254 := by omega
    clear h251 h250 hc
    generalize (c.toNat : Int) = n at *
    go_enter Tryd.func40, Tryd.ntmps40
    go_wp2_with (go_at_call 44; refine (isNegCmd_yes n _ q1 q2).mono ?_; rintro e w' ⟨rfl, rfl⟩)
    go_end0
    exact ⟨rfl, ⟨_, _, _, (h.mode 2).cmd _⟩, ((Below.refl base w).setCell hlo _).setCell hlo _⟩
  rw [if_neg h251]
  have q1 : ¬ (251 : Int) ≤ (c.toNat : Int) := by omega
  by_cases h240 : 240 ≤ c.toNat
  · rw [if_pos h240]
    have q2 : (240 : Int) ≤ (c.toNat : Int) := by omega
    have q3 : (c.toNat : Int) < 250 := by omega
    clear h251 h250 hc h240
    generalize (c.toNat : Int) = n at *
    go_enter Tryd.func40, Tryd.ntmps40
    go_wp2_with (first | (go_at_call 41; refine (tell_any base w b r vw vd vt h hf ⟨2, n, 0, []⟩).mono ?_; rintro e w' ⟨rfl, h1, h2⟩) | (go_at_call 44; refine (isNegCmd_no n _ (by omega)).mono ?_; rintro e w' ⟨rfl, rfl⟩) | (go_at_call 52; refine (isPlainCmd_yes n _ (by omega) (by omega)).mono ?_; rintro e w' ⟨rfl, rfl⟩))
    go_end0
    exact ⟨rfl, h1, h2⟩
  · rw [if_neg h240]
    have q2 : ¬ (240 : Int) ≤ (c.toNat : Int) := by omega
    clear h251 h250 hc h240
    generalize (c.toNat : Int) = n at *
    go_enter Tryd.func40, Tryd.ntmps40
    go_wp2_with (first | (go_at_call 41; refine (tell_any base w b r vw vd vt h hf ⟨5, n, 0, []⟩).mono ?_; rintro e w' ⟨rfl, h1, h2⟩) | (go_at_call 44; refine (isNegCmd_no n _ (by omega)).mono ?_; rintro e w' ⟨rfl, rfl⟩) | (go_at_call 52; refine (isPlainCmd_no n _ (by omega)).mono ?_; rintro e w' ⟨rfl, rfl⟩))
    go_end0
    exact ⟨rfl, h1, h2⟩

set_option maxHeartbeats 3000000 in
theorem takeWordsCommand_any : Does 43 RS.takeWordsCommand := by
  intro base w b r vw vd vt h hf c
  have hlt := byte_lt c
  have hge : (0 : Int) ≤ (c.toNat : Int) := Int.natCast_nonneg _
  have c0 := h.c0
  have f0 := h.fr 0
  have c2 := h.c2
  have c4 := h.c4
  have hlo := h.lo
  by_cases hc : c.toNat = 255
  · have e : c = 255 := by apply UInt8.toNat_inj.1; rw [hc]; rfl
    subst e
    rw [RS.takeWordsCommand, if_pos hc]
    have hm := h.mode 4
    clear hlt hc hge
    show Calls Tryd.prog 43 #[.pointer (some ⟨b, 0, none⟩), .int .u8 255] w _
    go_enter Tryd.func43, Tryd.ntmps43
    go_wp2_with (go_at_call 54; refine (putWord_any base _ b { r with mode := 4 } vw vd vt hm hf 255).mono ?_; rintro e w' ⟨rfl, h1, h2⟩)
    go_end0
    exact ⟨rfl, h1, ((Below.refl base w).setCell hlo _).trans h2⟩
  have hcb : ((c.toNat : Int) == 255) = false := beq_eq_false_iff_ne.2 (by omega)
  rw [RS.takeWordsCommand, if_neg hc]
  by_cases h240 : c.toNat = 240
  · have h2b : ((c.toNat : Int) != 240) = false := by rw [h240]; rfl
    rw [if_neg (by simpa using h240)]
    by_cases ho : r.over = true
    · rw [if_pos ho]
      rw [ho] at c4
      clear ho h240 hc
      generalize (c.toNat : Int) = n at *
      go_enter Tryd.func43, Tryd.ntmps43
      go_wp2_with (go_at_call 41; refine (tell_any base w b r vw vd vt h hf ⟨5, 250, r.opt, []⟩).mono ?_; rintro e w' ⟨rfl, h1, h2⟩)
      go_end0
      exact ⟨rfl, h1, h2⟩
    · rw [if_neg ho]
      have ho' : r.over = false := by simpa using ho
      rw [ho'] at c4
      clear ho ho' h240 hc
      have c5 := h.c5
      have hstr : (convert 45 9 vw).run Tryd.prog w.drew = .ok (.string ⟨r.words.toArray⟩) w.drew := run_str h.ow 1
      have hd : Rd base w.drew b r vw vd vt := ⟨h.blk, h.lo, h.ow, h.od, h.ot, h.ne⟩
      generalize (c.toNat : Int) = n at *
      go_enter Tryd.func43, Tryd.ntmps43
      go_wp2_with fail
      go_region_with (go_at_call 41; refine (tell_any base _ b r vw vd vt hd hf ⟨4, 0, r.opt, r.words⟩).mono ?_; rintro e w' ⟨rfl, h1, h2⟩)
      all_goals
        go_wp2
        go_end0
        exact ⟨rfl, h1, (Below.refl base w).drew.trans h2⟩
  · have h2b : ((c.toNat : Int) != 240) = true := by rw [bne_iff_ne]; omega
    rw [if_pos h240]
    clear h240 hc
    generalize (c.toNat : Int) = n at *
    go_enter Tryd.func43, Tryd.ntmps43
    go_wp2_with (go_at_call 41; refine (tell_any base w b r vw vd vt h hf ⟨5, n, r.opt, []⟩).mono ?_; rintro e w' ⟨rfl, h1, h2⟩)
    go_end0
    exact ⟨rfl, h1, h2⟩
end Go.Proofs.YtmcoliblkkploaaDoor
