/-
  Contracts of send and put, over an editor in memory; conditions: no more than so many lines, no more shown than so many bytes.
-/
import Derived.Test.YtomgnnbcaficaaaDoorLApp
namespace Go.Proofs.YtomgnnbcaficaaaDoor.L
open Go.RowKit Go.Lib Go.Proofs.YtomgnnbcaficaaaDoor Go.Proofs.YtomgnnbcaficaaaDoor.W Go.Proofs.YtomgnnbcaficaaaDoor.Q

theorem TS.str {base : Nat} {w : World} {b : Nat} {k : List UInt8} {M : List Nat} {ab : Option Addr} {nb cb : Nat} {al : Option Addr} {nl cl : Nat} {ae : Option Addr} {ne ce : Nat} {s : S} (h : TS base w b k M ab nb cb al nl cl ae ne ce s) :
    (convert 48 9 (.slice ab nb cb)).run Tryd.prog w = .ok (.string (bs s.buf)) w := run_str (base := base) (l := s.buf) (by have := h.ob; unfold OwnB; rw [← h.eb]; exact this)

set_option maxHeartbeats 4000000 in
set_option maxRecDepth 100000 in
theorem send_any {base : Nat} {w : World} {b : Nat} {k : List UInt8} {M : List Nat} {s : S} (h : TX base w b k M s) (hl : s.ls.length ≤ 1000000) :
    Calls Tryd.prog 42 #[.pointer (some ⟨b, 0, none⟩)] w fun e w' => e = .returned (.tuple #[]) ∧ TX base w' b k M (sendS s) ∧ Below base w w' := by
  obtain ⟨ab, nb, cb, al, nl, cl, ae, ne, ce, h⟩ := h
  have HT := Hid.mk' h
  have c42 := h.c42
  have c44 := h.c44
  have f42 := h.fr 42
  have f44 := h.fr 44
  have hb := h.lt
  have hlo := h.lo
  have hbs := h.base_le
  have hcv := h.drew.str
  have hlen : s.ls.length ≤ 100000000000 := by omega
  generalize hy : bs s.buf = y at *
  have HW : Hid (∀ W : World, W.heap = (w.alloc (.cells #[.string y] 9)).heap → TS base W b k M ab nb cb al nl cl ae ne ce s) := fun W hW => h.move fun g hg => by rw [hW]; exact Below.heap_alloc w _ g hg
  clear h HT
  go_enter Tryd.func42, Tryd.ntmps42
  go_wp2
  go_region_law ((
    refine rstep_lines rfl (HW.out _ rfl) (.tmp 6) (.tmp 12) rfl (by simp [Act.eval]) (.slice (some ⟨w.heap.size, 0, none⟩) 1 1) (by simp [Act.eval]) s.buf (src_line w _ y 1 s.buf hy.symm rfl) hlen ?_
    intro al' nl' cl' w1 d44 g44 d42 g42 T1 B1))
  all_goals
    go_wp2_with (refine wpList_upto rfl 48 5 _ _ rfl Tryd.underlying48 sizeU8 ab nb cb 0 rfl rfl (Nat.zero_le _) ?_)
    go_end0
    exact ⟨rfl, ⟨_, _, _, _, _, _, _, _, _, T1.out.cutBuf (Nat.zero_le _)⟩, (Below.trans (((Below.refl base w).alloc hbs _).drew) B1.out).setCell (p := ⟨b, 42, none⟩) hlo _⟩

set_option maxHeartbeats 4000000 in
set_option maxRecDepth 100000 in
theorem put_any {base : Nat} {w : World} {b : Nat} {k : List UInt8} {M : List Nat} {s : S} (h : TX base w b k M s) (hl : s.ls.length ≤ 1000000) (hbl : s.buf.length ≤ 1000000) (hel : s.echo.length ≤ 50000000000) (c : UInt8) :
    Calls Tryd.prog 37 #[.pointer (some ⟨b, 0, none⟩), .int .u8 (c.toNat : Int)] w fun e w' => e = .returned (.tuple #[]) ∧ TX base w' b k M (putS s c) ∧ Below base w w' := by
  obtain ⟨ab, nb, cb, al, nl, cl, ae, ne, ce, h⟩ := h
  have HT := Hid.mk' h
  have HT0 : Hid (TS base (w.alloc (.cells #[.int .u8 (c.toNat : Int)] 5)) b k M ab nb cb al nl cl ae ne ce s) := h.alloc _
  have c42 := h.c42
  have c45 := h.c45
  have f42 := h.fr 42
  have hb := h.lt
  have hlo := h.lo
  have hbs := h.base_le
  have HB0 : Hid (Below base w (w.alloc (.cells #[.int .u8 (c.toNat : Int)] 5))) := (Below.refl base w).alloc hbs _
  have HS : Hid (∀ W, TX base W b k M ⟨s.buf ++ [c], s.q, s.ls, s.echo ++ [c]⟩ → Calls Tryd.prog 42 #[.pointer (some ⟨b, 0, none⟩)] W fun e w' => e = .returned (.tuple #[]) ∧ TX base w' b k M (sendS ⟨s.buf ++ [c], s.q, s.ls, s.echo ++ [c]⟩) ∧ Below base W w') := fun W hW => send_any hW hl
  have hl1 : s.buf.length + [c].length ≤ 100000000000 := by simp; omega
  have hl2 : s.echo.length + [c].length ≤ 100000000000 := by simp; omega
  clear h
  have HR1 : Hid ((s.buf ++ [c]).length = 1024 → putS s c = sendS ⟨s.buf ++ [c], s.q, s.ls, s.echo ++ [c]⟩) := fun e => by unfold putS; rw [if_pos e]; rfl
  have HR2 : Hid (¬ (s.buf ++ [c]).length = 1024 → putS s c = ⟨s.buf ++ [c], s.q, s.ls, s.echo ++ [c]⟩) := fun e => by unfold putS; rw [if_neg e]
  generalize putS s c = R at *
  go_enter Tryd.func37, Tryd.ntmps37
  go_wp2_with (refine wpList_buf rfl HT0.out _ _ 48 rfl rfl (.slice (some ⟨w.heap.size, 0, none⟩) 1 1) rfl 1 [c] (src_one w c 1) hl1 ?_)
  intro ab1 nb1 cb1 w1 d42 g42 d45 T1 B1
  have HT2 : Hid (TS base ((w1.setCell ⟨b, 42, none⟩ (.slice ab1 nb1 cb1)).alloc (.cells #[.int .u8 (c.toNat : Int)] 5)) b k M ab1 nb1 cb1 al nl cl ae ne ce ⟨s.buf ++ [c], s.q, s.ls, s.echo⟩) := T1.out.alloc _
  have HB2 : Hid (Below base w ((w1.setCell ⟨b, 42, none⟩ (.slice ab1 nb1 cb1)).alloc (.cells #[.int .u8 (c.toNat : Int)] 5))) := (HB0.out.trans B1.out).alloc T1.out.base_le _
  have hb1 := T1.out.lt
  go_wp2_with (refine wpList_echo rfl HT2.out _ _ 48 rfl rfl (.slice (some ⟨w1.heap.size, 0, none⟩) 1 1) rfl 1 [c] (src_one' _ _ (by simp [World.setCell]) c 1) hl2 ?_)
  intro ae2 ne2 ce2 w2 e45 g45 e42 T2 B2
  have HB3 := Hid.mk' (HB2.out.trans B2.out)
  have hnb := T2.out.eb
  clear HT0 HT2 HB0 HB2 B1 B2 T1
  by_cases hf : (s.buf ++ [c]).length = 1024
  · have h1 : nb1 = 1024 := hnb.trans hf
    have HQ := Hid.mk' (HR1.out hf)
    subst h1
    clear hnb hf HR1 HR2
    go_wp2_with fail
    refine (HS.out _ ⟨_, _, _, _, _, _, _, _, _, T2.out⟩).mono ?_
    rintro e w3 ⟨rfl, hT3, hB3⟩
    go_wp2
    go_end0
    exact ⟨rfl, by rw [HQ.out]; exact hT3, HB3.out.trans hB3⟩
  · have h1 : ¬ ((nb1 : Int) = 1024) := fun e => hf (by show (s.buf ++ [c]).length = 1024; have : nb1 = (s.buf ++ [c]).length := hnb; omega)
    have HQ := Hid.mk' (HR2.out hf)
    clear hnb hf HR1 HR2
    go_wp2
    go_end0
    exact ⟨rfl, by rw [HQ.out]; exact ⟨_, _, _, _, _, _, _, _, _, T2.out⟩, HB3.out⟩
end Go.Proofs.YtomgnnbcaficaaaDoor.L
