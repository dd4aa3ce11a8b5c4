/-
  The walk of farkeep.IacRight: it returns true and leaves what was there; conditions: at most 1048576 bytes, and the variable internal/bytealg.MaxLen holds some int.
-/
import Derived.Test.YtmcoliblkkploabDoorEsc
import Derived.Test.YtmcoliblkkploabDoorRight
namespace Go.Proofs.YtmcoliblkkploabDoor
open Go.RowKit

theorem OwnR.later {w w' : World} {base : Nat} {e : TypeId} {size : Nat} {v : Value} {n : Nat} {xs : List Value} (h : OwnR w base e size v n xs) (hb : Below w.heap.size w w') : OwnR w' base e size v n xs :=
  h.keptAt fun k hk => hb.block k (h.lt k hk).2
theorem OwnR.allocd {w : World} {base : Nat} {e : TypeId} {size : Nat} {v : Value} {n : Nat} {xs : List Value} (h : OwnR w base e size v n xs) (o : Obj) : OwnR (w.alloc o) base e size v n xs :=
  h.later ((Below.refl _ _).alloc (Nat.le_refl _) _)
theorem later_cells {w w' : World} {cs : Array Value} {T : TypeId} (hb : Below (w.heap.size + 1) (w.alloc (.cells cs T)) w') : ∀ j, w'.cell? ⟨w.heap.size, j, none⟩ = cs[j]? := fun j =>
  (hb.cell (p := ⟨w.heap.size, j, none⟩) (by simp)).trans (World.cell?_alloc_at _ _ _ _ rfl)
theorem bfirst {w w' : World} {o : Obj} (hb : Below (w.alloc o).heap.size (w.alloc o) w') : Below (w.heap.size + 1) (w.alloc o) w' := by simpa using hb
def Lives (m : Int) : Prop := ∀ W : World, W.cell? ⟨0, 0, none⟩ = some (.int .i64 m) → Calls Tryd.prog 6 #[] W fun e w' => e = .returned (.bool true) ∧ Below W.heap.size W w'
theorem lives (m : Int) : Lives m := fun W hW => lives_any Escape_any W m hW

def Few (l : List Tk) : Prop := ∀ t ∈ l, t.kind ≠ 1 → t.data.length ≤ 4096
theorem Few.app {l m : List Tk} (h1 : Few l) (h2 : Few m) : Few (l ++ m) := fun t ht hk => by
  rcases List.mem_append.1 ht with h | h
  · exact h1 t h hk
  · exact h2 t h hk
theorem Few_tail (d : List UInt8) : Few (tail d) := fun t ht hk => by
  unfold tail at ht
  split at ht
  · cases ht
  · simp at ht; subst ht; exact absurd rfl hk
theorem feed_few (x : Wr) (s : List UInt8) (hx : x.buf.length ≤ 4096) : Few (feed x s).toks := by
  have gen : ∀ (s : List UInt8) (r : RS), r.words.length ≤ 4096 → Few r.toks → Few (s.foldl RS.take r).toks := by
    intro s
    induction s with
    | nil => intro r _ h; exact h
    | cons c s ih =>
      intro r hw h
      refine ih _ (take_grows r c hw).2.2 ?_
      rw [take_act]
      cases e : act r.wire c with
      | inl p => exact h
      | inr t =>
        have hd := (act_tok _ _ _ e).2
        refine Few.app (by rw [flush_toks_eq]; exact h.app (Few_tail _)) (fun u hu _ => ?_)
        simp at hu
        subst hu
        have hwb : r.wire.buf = r.words := rfl
        rw [hwb] at hd
        rcases hd with h | h <;> rw [h]
        · simp
        · exact hw
  rw [feed, flush_toks_eq]
  exact (gen s _ hx (fun t ht => by simp [RS.ofWr] at ht)).app (Few_tail _)
theorem NF_at : ∀ (l : List Tk), NF l → ∀ k (h : k < l.length), l[k].kind = 1 → l[k].data ≠ [] ∧ ∀ j (hj : j < l.length), j + 1 = k → l[j].kind ≠ 1
  | t :: l, h, 0, _, hk => ⟨(h.1 hk).1, fun j _ e => by omega⟩
  | t :: l, h, k + 1, hlt, hk => by
    have ih := NF_at l h.2 k (by simpa using hlt) (by simpa using hk)
    refine ⟨by simpa using ih.1, fun j hj e => ?_⟩
    cases j with
    | zero =>
      have e0 : k = 0 := by omega
      subst e0
      intro ht
      have ht' : t.kind = 1 := by simpa using ht
      have hf := (h.1 ht').2
      cases l with
      | nil => simp at hlt
      | cons u l => exact hf (by simpa using hk)
    | succ j => simpa using ih.2 j (by simpa using hj) (by omega)

set_option maxHeartbeats 4000000 in
theorem IacRight_bad (x : Wr) (s : List UInt8) (m : Int) (w : World) (hx : x.ok = false) (hb : x.buf.length ≤ 1048576) (hm : w.cell? ⟨0, 0, none⟩ = some (.int .i64 m)) :
    Calls Tryd.prog 4 #[x.val, .string ⟨s.toArray⟩] w fun e w' => e = .returned (.bool true) ∧ Below w.heap.size w w' := by
  have h0 : 0 < w.heap.size := World.block_lt_of_cell? _ _ hm
  have HF := Hid.mk' (fun W => Feed_bad x s W hx (by omega))
  have HL := lives m
  clear hx hb
  obtain ⟨mode, cmd, opt, buf, over⟩ := x
  simp only [Wr.val] at *
  go_enter Tryd.func4, Tryd.ntmps4
  go_wp2_with fail
  refine (HF.out _).mono ?_
  rintro e w1 ⟨rfl, hb1⟩
  have HB1 : Hid (Below w.heap.size w w1) := ((Below.refl w.heap.size w).alloc (Nat.le_refl _) _).trans (hb1.mono (by simp))
  have hs1 := hb1.size
  simp only [World.size_alloc] at hs1
  have hM1 : Hid (∀ o, (w1.alloc o).cell? ⟨0, 0, none⟩ = some (.int .i64 m)) := fun o => by
    rw [World.cell?_alloc_past (hn := by omega)]
    exact (HB1.out.cell (p := ⟨0, 0, none⟩) h0).trans hm
  clear hb1
  go_wp2_with fail
  refine (HL _ (hM1.out _)).mono ?_
  rintro e w2 ⟨rfl, hb2⟩
  have hs2 := hb2.size
  simp only [World.size_alloc] at hs2
  have HB2 : Hid (Below w.heap.size w w2) := (HB1.out.alloc (by omega) _).trans (hb2.mono (by simp; omega))
  have hM2 : Hid (w2.cell? ⟨0, 0, none⟩ = some (.int .i64 m)) := (HB2.out.cell (p := ⟨0, 0, none⟩) h0).trans hm
  clear hb2
  go_wp2_with fail
  refine (HL _ hM2.out).mono ?_
  rintro e w3 ⟨rfl, hb3⟩
  have HB3 : Hid (Below w.heap.size w w3) := HB2.out.trans (hb3.mono (by omega))
  clear hb3
  go_wp2
  go_ret
  exact ⟨rfl, HB3.out⟩

set_option maxHeartbeats 8000000 in
set_option maxRecDepth 100000 in
theorem IacRight_ok (x : Wr) (s : List UInt8) (m : Int) (w : World) (hx : x.ok = true) (hs : s.length ≤ 1048576) (hm : w.cell? ⟨0, 0, none⟩ = some (.int .i64 m)) :
    Calls Tryd.prog 4 #[x.val, .string ⟨s.toArray⟩] w fun e w' => e = .returned (.bool true) ∧ Below w.heap.size w w' := by
  have h0 : 0 < w.heap.size := World.block_lt_of_cell? _ _ hm
  have hbx := ok_buf x hx
  have hy := feed_ok x s hx
  have hby := ok_buf _ hy
  have n1 := feed_count x s hbx
  have p1 := feed_pot x s
  have HF := Hid.mk' (fun W => Feed_ok x s W hx (by omega))
  have HNF := Hid.mk' (NF_at _ (feed_NF x s))
  have HFW := Hid.mk' (feed_few x s hbx)
  have HMG := Hid.mk' (feed_merge x s)
  have hwr := fun W => WireRight_any (feed x s).wire W (by omega)
  rw [hy] at hwr
  simp only [if_true] at hwr
  have HWR := Hid.mk' hwr
  clear hwr
  have hnl : (feed x s).toks.length ≤ 100000000 := by omega
  have hdl : dataSum (feed x s).toks ≤ 100000000 := by omega
  generalize (feed x s).toks = T at *
  generalize (feed x s).wire = y at *
  have HL := lives m
  clear hx hy hby hbx n1 p1
  obtain ⟨mode, cmd, opt, buf, over⟩ := x
  obtain ⟨ymode, ycmd, yopt, ybuf, yover⟩ := y
  simp only [Wr.val] at *
  go_enter Tryd.func4, Tryd.ntmps4
  go_wp2_with fail
  refine (HF.out _).mono ?_
  rintro e w1 ⟨v1, rfl, ho1, hb1⟩
  have HB1 : Hid (Below w.heap.size w w1) := ((Below.refl w.heap.size w).alloc (Nat.le_refl _) _).trans (hb1.mono (by simp))
  have hs1 := hb1.size
  simp only [World.size_alloc] at hs1
  have HO1 := Hid.mk' ho1
  have hM1 : Hid (∀ o, (w1.alloc o).cell? ⟨0, 0, none⟩ = some (.int .i64 m)) := fun o => by
    rw [World.cell?_alloc_past (hn := by omega)]
    exact (HB1.out.cell (p := ⟨0, 0, none⟩) h0).trans hm
  clear hb1 ho1 HF
  go_wp2_with fail
  refine (HL _ (hM1.out _)).mono ?_
  rintro e w2 ⟨rfl, hb2⟩
  have d1 := later_cells (bfirst hb2)
  have hs2 := hb2.size
  simp only [World.size_alloc] at hs2
  have HB2 : Hid (Below w.heap.size w w2) := (HB1.out.alloc (by omega) _).trans (hb2.mono (by simp; omega))
  have HO2 := Hid.mk' ((HO1.out.allocd _).later hb2)
  have hw12 : w1.heap.size < w2.heap.size := by omega
  clear hb2 HO1 HL hM1
  obtain ⟨a1, c1, rfl⟩ : ∃ a c, v1 = .slice a T.length c := by
    rcases HO2.out.form with ⟨rfl, e⟩ | ⟨g, cap, rfl, _⟩
    · exact ⟨none, 0, by rw [e]⟩
    · exact ⟨_, _, rfl⟩
  go_wp2_with fail
  go_loopw [26] (fun i wr => ∃ k : Nat, k ≤ T.length ∧ i = .int .i64 k ∧ Below w2.heap.size w2 wr) (fun i _ => T.length - (intOf i).toNat)
  case atStart => exact ⟨0, Nat.zero_le _, rfl, Below.refl _ _⟩
  case round =>
    obtain ⟨k, hk, rfl, hbw⟩ := hrel
    have hsw := hbw.size
    by_cases hlt : k < T.length
    · obtain ⟨g, rfl, hg, hT⟩ : ∃ g, a1 = some ⟨g, 0, none⟩ ∧ g < w2.heap.size ∧ Tread w2 g 0 T := by
        rcases HO2.out.form with ⟨e, e2⟩ | ⟨g, cap, e, _, hg, _⟩
        · omega
        · simp at e; obtain ⟨rfl, rfl⟩ := e; exact ⟨g, rfl, hg, HO2.out.tread⟩
      have hTw := hT.below hbw hg
      obtain ⟨t0, t1, t2, t3⟩ := hTw k hlt
      simp only [Nat.zero_add] at t0 t1 t2 t3
      have hgw : g < wr.heap.size := by omega
      have HBW := Hid.mk' hbw
      have HTW := Hid.mk' hTw
      have hnf := HNF.out k hlt
      have hfw := HFW.out T[k] (List.getElem_mem hlt)
      clear hbw hT hTw
      generalize hTk : T[k] = tk at *
      clear hTk
      obtain ⟨kd, cm, op, dt⟩ := tk
      simp only at t0 t1 t2 t3 hnf hfw
      by_cases hkd : kd = 1
      · obtain ⟨hne, hprev⟩ := hnf hkd
        have q1 : (kd == 1) = true := by simp [hkd]
        have q2 : (kd != 1) = false := by simp [hkd]
        have q3 : (dt == []) = false := by simp [hne]
        have HPV := Hid.mk' hprev
        clear hnf hfw hkd hne hprev
        by_cases hk0 : k = 0
        · subst hk0
          by_cases hln : (4096 : Int) < (dt.length : Int)
          · go_wp2
            go_roundw
            case rel => exact ⟨1, by omega, by go_num, HBW.out.alloc (by omega) _⟩
            case measure => simp [intOf]; omega
          · go_wp2
            go_roundw
            case rel => exact ⟨1, by omega, by go_num, HBW.out.alloc (by omega) _⟩
            case measure => simp [intOf]; omega
        · obtain ⟨j, rfl⟩ : ∃ j, k = j + 1 := ⟨k - 1, by omega⟩
          obtain ⟨u0, _, _, _⟩ := HTW.out j (by omega)
          simp only [Nat.zero_add] at u0
          have hp := HPV.out j (by omega) rfl
          generalize T[j].kind = pk at u0 hp
          have q4 : (pk == 1) = false := beq_eq_false_iff_ne.2 hp
          clear hp hk0
          by_cases hln : (4096 : Int) < (dt.length : Int)
          · go_wp2
            exact ⟨⟨j + 1 + 1, by omega, by go_num, HBW.out.alloc (by omega) _⟩, by simp [intOf]; omega⟩
          · go_wp2
            exact ⟨⟨j + 1 + 1, by omega, by go_num, HBW.out.alloc (by omega) _⟩, by simp [intOf]; omega⟩
      · have q1 : (kd == 1) = false := beq_eq_false_iff_ne.2 hkd
        have q2 : (kd != 1) = true := by rw [bne_iff_ne]; exact hkd
        have q3 : ¬ (4096 : Int) < (dt.length : Int) := by have := hfw hkd; omega
        clear hnf hfw hkd
        go_wp2
        go_roundw
        case rel => exact ⟨k + 1, by omega, by go_num, HBW.out.alloc (by omega) _⟩
        case measure => simp [intOf]; omega
    · obtain rfl : k = T.length := by omega
      have d1' : ∀ j, wr.cell? ⟨w1.heap.size, j, none⟩ = (#[.int .i64 ymode, .int .i64 ycmd, .int .i64 yopt, .string ⟨ybuf.toArray⟩, .bool yover] : Array Value)[j]? := fun j => (hbw.cell (p := ⟨w1.heap.size, j, none⟩) hw12).trans (d1 j)
      have HBW : Hid (Below w.heap.size w wr) := HB2.out.trans (hbw.mono (by omega))
      have HOW := Hid.mk' (HO2.out.later hbw)
      clear hk hlt hbw d1 HO2
      go_wp2_with fail
      refine (HWR.out _).mono ?_
      rintro e w3 ⟨rfl, hb3⟩
      have hs3 := hb3.size
      have HB3 : Hid (Below w.heap.size w w3) := HBW.out.trans (hb3.mono (by omega))
      have HO3 := Hid.mk' (HOW.out.later hb3)
      clear hb3 d1'
      have hmg := Merge_any w3 _ T HO3.out.rdl hnl hdl
      have HMM := Hid.mk' hmg
      clear hmg
      go_wp2_with fail
      refine HMM.out.mono ?_
      rintro e w4 ⟨v4, rfl, ho4, hb4⟩
      have heq := Equal_any w4 v4 _ (merge T) T _ _ ho4 (HO3.out.later hb4) (by rw [HMG.out]; omega) (by omega)
      rw [(Tk.eqs_iff _ _).2 HMG.out] at heq
      have HEQ := Hid.mk' heq
      have HB4 : Hid (Below w.heap.size w w4) := HB3.out.trans (hb4.mono (by omega))
      clear ho4 hb4 heq HMM
      go_wp2_with fail
      refine HEQ.out.mono ?_
      rintro e w5 ⟨rfl, q, rfl⟩
      go_wp2
      go_ret
      exact ⟨rfl, below_drewN HB4.out q⟩
end Go.Proofs.YtmcoliblkkploabDoor
