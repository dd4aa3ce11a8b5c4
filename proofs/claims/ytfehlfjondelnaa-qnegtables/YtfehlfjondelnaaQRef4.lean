/-
  Contract of the document's side: farref.Wanted: whatever the cells of the Neg and the other arguments.
-/
import Derived.Test.YtfehlfjondelnaaQRef3
import Derived.Test.YtfehlfjondelnaaQWant
namespace Go.Proofs.Ytfehlfjondelnaa.Q
open Go.RowKit Go.Proofs.Ytfehlfjondelnaa

attribute [local go_sem ↓] exec_load32 exec_store32

theorem ask_say (s : Int) (on : Bool) : (ask s on).2.1 = 0 ∨ (ask s on).2.1 = 1 ∨ (ask s on).2.1 = 2 := by
  unfold ask
  repeat' split
  all_goals first | exact .inl rfl | exact .inr (.inl rfl) | exact .inr (.inr rfl)
theorem ask_err (s : Int) (on : Bool) (h : (ask s on).2.2 ≠ 0) : (ask s on).1 = s ∧ (ask s on).2.1 = 0 := by
  unfold ask at *
  repeat' split
  all_goals first | exact ⟨rfl, rfl⟩ | (exfalso; simp_all)

theorem info28 : (Try.prog.info? 28).map (fun i => (i.zero, i.size)) = some (some (.agg (List.replicate 256 (Value.int .u8 0)).toArray), 256) := by kernel_rfl
theorem size28 : (Try.prog.info? 28).map (·.size) = some 256 := (zero_of_info info28).2
theorem rep1 (n : Nat) (v : Value) : (List.replicate n v).length = n := by simp
theorem zero28 : ∃ z : List Value, z.length = 256 ∧ ∀ w, (zeroValue 28).run Try.prog w = .ok (.agg z.toArray) w := ⟨_, rep1 256 _, (zero_of_info info28).1⟩

/-- the states of one end -/
def half (l : List Value) (us : Bool) : List Value := (l.drop (if us then 0 else 256)).take 256
theorem half_len {l : List Value} (hl : NegL l) (us : Bool) : (half l us).length = 256 := by
  have := hl.len
  unfold half
  rw [List.length_take, List.length_drop]
  split <;> omega
theorem half_one {l : List Value} (hl : NegL l) (us : Bool) : ∀ v ∈ half l us, v.oneCell' = true := fun v hv => hl.one v (List.mem_of_mem_drop (List.mem_of_mem_take hv))
theorem half_get {l : List Value} (hl : NegL l) (us : Bool) {k : Nat} (hk : k < 256) : (half l us)[k]? = some (.int .u8 (st l (place us k))) := by
  have e := (hl.byte (place_lt us hk)).1
  unfold half
  rw [List.getElem?_take, if_pos hk, List.getElem?_drop]
  cases us
  · exact e
  · rw [if_pos rfl, Nat.zero_add]
    exact e
theorem half_set_one {l : List Value} (hl : NegL l) (us : Bool) (k : Nat) (s : Int) : ∀ v ∈ (half l us).set k (.int .u8 s), v.oneCell' = true := fun v hv => by
  rcases List.mem_or_eq_of_mem_set hv with h | rfl
  · exact half_one hl us v h
  · rfl
theorem half_lay {l : List Value} (hl : NegL l) (us : Bool) {k : Nat} (hk : k < 256) (s : Int) : lay l (if us then 0 else 256) ((half l us).set k (.int .u8 s)) = putSt l us k s := by
  have hn := hl.len
  have hh := half_len hl us
  have hp : place us k = (if us then 0 else 256) + k := by cases us <;> simp [place]
  have hb : (if us = true then 0 else 256) ≤ 256 := by split <;> omega
  unfold putSt
  rw [hp]
  have hg : ∀ j, (half l us)[j]? = if j < 256 then l[(if us then 0 else 256) + j]? else none := fun j => by
    unfold half
    rw [List.getElem?_take, List.getElem?_drop]
  generalize (if us = true then 0 else 256) = o at *
  generalize half l us = H at *
  apply List.ext_getElem?
  intro j
  by_cases h1 : o ≤ j ∧ j < o + 256
  · rw [lay_in _ _ _ _ (by simp; omega) h1.1 (by simp; omega)]
    by_cases e : j = o + k
    · subst e
      rw [show o + k - o = k by omega, List.getElem?_set_self (by omega), List.getElem?_set_self (by omega)]
    · rw [List.getElem?_set_ne (by omega), List.getElem?_set_ne (by omega), hg, if_pos (by omega), show o + (j - o) = j by omega]
  · rw [lay_out _ _ _ _ (by simp; omega), List.getElem?_set_ne (by omega)]

set_option maxHeartbeats 4000000 in
theorem Wanted_form (l : List Value) (hl : NegL l) (hr : right l = false) (us on : Bool) (op : Int) (w : World) :
    Calls Try.prog 18 #[.agg l.toArray, .bool us, .int .i64 op, .bool on] w fun e w' => e = .returned (RNeg l [] 4) ∧ Below w.heap.size w w' := by
  obtain ⟨z, hz, hzw⟩ := zero32
  have HZ := Hid.mk' hzw
  have HC := Hid.mk' (NegRight_any l hl)
  rw [hr] at HC
  have HL := Hid.mk' hl
  have HS : Hid ((Try.prog.info? 32).map (·.size) = some l.length) := by rw [hl.len]; exact size32
  have HN : Hid (z.length = l.length) := hz.len.trans hl.len.symm
  clear hzw hl hz hr
  go_enter Try.func18, Try.ntmps18
  go_wp2_with (refine wpList_box l 32 rfl _ rfl rfl ?_)
  intro w1 m1
  go_wp2_with (refine wpList_alloc z 32 HZ.out rfl rfl ?_)
  intro w2 m2
  have z1 := m1.lt
  have z2 := m2.lt
  have b3 := m2.keep m1.box
  have HB3 := Hid.mk' (m2.below w.heap.size w (by omega) (m1.below _ _ (Nat.le_refl _) (Below.refl _ w)))
  go_wp2_with (refine wpList_load_box 32 32 l w.heap.size _ Try.underlying32 rfl HS.out b3 rfl _ rfl rfl ?_)
  refine (HC.out _).mono ?_
  rintro e w4 ⟨rfl, h4⟩
  have b4 := b3.later h4
  have r4 := m2.box.later h4
  have HB4 := Hid.mk' (HB3.out.trans (h4.mono (by omega)))
  have hle : w.heap.size ≤ w1.heap.size := by omega
  clear z1 z2 b3 h4 m1 m2
  go_wp2_with (first | (refine wpList_load_box 32 32 l w.heap.size _ Try.underlying32 rfl HS.out b4 rfl _ rfl rfl ?_) | (refine wpList_store_box 32 32 z l w1.heap.size HS.out HL.out.one r4 HN.out rfl _ _ rfl rfl rfl ?_))
  intro w5 s5
  go_wp2
  exact ret_box3 Try.results18 32 l w1.heap.size _ Try.underlying32 rfl HS.out _ _ rfl rfl rfl s5.box rfl ⟨rfl, s5.below _ _ hle HB4.out⟩

set_option maxHeartbeats 4000000 in
theorem Wanted_arg (l : List Value) (hl : NegL l) (hr : right l = true) (us on : Bool) (op : Int) (hi : isOp op = false) (w : World) :
    Calls Try.prog 18 #[.agg l.toArray, .bool us, .int .i64 op, .bool on] w fun e w' => e = .returned (RNeg l [] 1) ∧ Below w.heap.size w w' := by
  obtain ⟨z, hz, hzw⟩ := zero32
  have HZ := Hid.mk' hzw
  have HC := Hid.mk' (NegRight_any l hl)
  rw [hr] at HC
  have HI := Hid.mk' (Between_any op 0 255)
  rw [show btw op 0 255 = false from hi] at HI
  have HL := Hid.mk' hl
  have HS : Hid ((Try.prog.info? 32).map (·.size) = some l.length) := by rw [hl.len]; exact size32
  have HN : Hid (z.length = l.length) := hz.len.trans hl.len.symm
  clear hzw hl hz hr hi
  go_enter Try.func18, Try.ntmps18
  go_wp2_with (refine wpList_box l 32 rfl _ rfl rfl ?_)
  intro w1 m1
  go_wp2_with (refine wpList_alloc z 32 HZ.out rfl rfl ?_)
  intro w2 m2
  have z1 := m1.lt
  have z2 := m2.lt
  have b3 := m2.keep m1.box
  have HB3 := Hid.mk' (m2.below w.heap.size w (by omega) (m1.below _ _ (Nat.le_refl _) (Below.refl _ w)))
  go_wp2_with (refine wpList_load_box 32 32 l w.heap.size _ Try.underlying32 rfl HS.out b3 rfl _ rfl rfl ?_)
  refine (HC.out _).mono ?_
  rintro e w4 ⟨rfl, h4⟩
  have b4 := b3.later h4
  have r4 := m2.box.later h4
  have HB4 := Hid.mk' (HB3.out.trans (h4.mono (by omega)))
  have hle : w.heap.size ≤ w1.heap.size := by omega
  clear z1 z2 b3 h4 m1 m2
  go_wp2_with fail
  refine (HI.out _).mono ?_
  rintro e w5 ⟨rfl, rfl⟩
  go_wp2_with (first | (refine wpList_load_box 32 32 l w.heap.size _ Try.underlying32 rfl HS.out b4 rfl _ rfl rfl ?_) | (refine wpList_store_box 32 32 z l w1.heap.size HS.out HL.out.one r4 HN.out rfl _ _ rfl rfl rfl ?_))
  intro w6 s5
  go_wp2
  exact ret_box3 Try.results18 32 l w1.heap.size _ Try.underlying32 rfl HS.out _ _ rfl rfl rfl s5.box rfl ⟨rfl, s5.below _ _ hle HB4.out⟩

set_option maxHeartbeats 8000000 in
theorem Wanted_ok (l : List Value) (hl : NegL l) (hr : right l = true) (us on : Bool) (k : Nat) (hk : k < 256) (w : World) (r1 r2 r3 : Int) (hh : ask (st l (place us k)) on = (r1, r2, r3)) :
    Calls Try.prog 18 #[.agg l.toArray, .bool us, .int .i64 (k : Int), .bool on] w fun e w' => e = .returned (RNeg (putSt l us k r1) (word us r2 k) r3) ∧ Below w.heap.size w w' := by
  obtain ⟨z, hz, hzw⟩ := zero32
  have HZ := Hid.mk' hzw
  obtain ⟨y, hy, hyw⟩ := zero28
  have HY := Hid.mk' hyw
  have HC := Hid.mk' (NegRight_any l hl)
  rw [hr] at HC
  have HI := Hid.mk' (Between_any k 0 255)
  rw [show btw (k : Int) 0 255 = true from decide_eq_true ⟨by omega, by omega⟩] at HI
  have hb := hl.byte (place_lt us hk)
  have hbd := ask_bd on hb.2.1 hb.2.2
  have hsy := ask_say (st l (place us k)) on
  rw [hh] at hbd hsy
  have HAS := Hid.mk' (Asked_any (st l (place us k)) on)
  rw [hh] at HAS
  unfold RAsk at HAS
  have HSA := Hid.mk' (Spoken_any us r2 k hsy hk)
  have HP := Hid.mk' (hl.put us hk hbd.1 hbd.2)
  have HS : Hid ((Try.prog.info? 32).map (·.size) = some l.length) := by rw [hl.len]; exact size32
  have HS' : Hid ((Try.prog.info? 32).map (·.size) = some (putSt l us k r1).length) := by rw [HP.out.len]; exact size32
  have HLN := Hid.mk' hl.len
  have HZN := Hid.mk' hz.len
  have HYN := Hid.mk' hy
  have HHL := Hid.mk' (half_len hl)
  have HHO := Hid.mk' (half_one hl)
  have HHS := Hid.mk' (half_set_one hl us k r1)
  have HHG := Hid.mk' (half_get hl us hk)
  have HLY := Hid.mk' (half_lay hl us hk r1)
  have s0 := hb.2.1
  have s1 := hb.2.2
  generalize st l (place us k) = s at *
  generalize putSt l us k r1 = l' at *
  generalize word us r2 k = wd at *
  obtain ⟨d0, d1⟩ := hbd
  have d2 : r1 ≤ 255 := by omega
  clear hzw hl hz hr hb hh hsy hyw hy
  have k0 : (0 : Int) ≤ (k : Int) := by omega
  have k1 : (k : Int) < 256 := by omega
  cases us with
  | true =>
    go_enter Try.func18, Try.ntmps18
    go_wp2_with (refine wpList_box l 32 rfl _ rfl rfl ?_)
    intro w1 m1
    go_wp2_with (refine wpList_alloc z 32 HZ.out rfl rfl ?_)
    intro w2 m2
    have z1 := m1.lt
    have z2 := m2.lt
    have b3 := m2.keep m1.box
    have HB3 := Hid.mk' (m2.below w.heap.size w (by omega) (m1.below _ _ (Nat.le_refl _) (Below.refl _ w)))
    go_wp2_with (refine wpList_load_box 32 32 l w.heap.size _ Try.underlying32 rfl HS.out b3 rfl _ rfl rfl ?_)
    refine (HC.out _).mono ?_
    rintro e w4 ⟨rfl, h4⟩
    have b4 := b3.later h4
    have r4 := m2.box.later h4
    have HB4 := Hid.mk' (HB3.out.trans (h4.mono (by omega)))
    have z4 := h4.size
    clear b3 h4 m1 m2
    go_wp2_with fail
    refine (HI.out _).mono ?_
    rintro e w5 ⟨rfl, rfl⟩
    go_wp2_with (first | (refine wpList_load_part 28 32 l w.heap.size 256 256 _ Try.underlying28 rfl size28 b4 (by rw [HLN.out]; omega) rfl _ rfl rfl ?_) | (refine wpList_alloc y 28 HY.out rfl rfl ?_))
    intro w6 m6
    have b6 := m6.keep b4
    have r6 := m6.keep r4
    have z6 := m6.lt
    have HB6 := Hid.mk' (m6.below _ _ (by omega) HB4.out)
    go_wp2_with (refine wpList_store_box 28 28 y (half l false) w5.heap.size (by rw [HHL.out]; exact size28) (HHO.out _) m6.box (HYN.out.trans (HHL.out _).symm) rfl _ _ rfl rfl rfl ?_)
    intro w7 s7
    have b7 := s7.keep b6 (by omega)
    have r7 := s7.keep r6 (by omega)
    have HB7 := Hid.mk' (s7.below _ _ (by omega) HB6.out)
    have y7 := s7.size
    clear b4 r4 b6 r6
    have z7 : w5.heap.size < w7.heap.size := by omega
    clear y7 m6 z6
    go_wp2_with (first | (refine wpList_load_part 28 32 l w.heap.size 0 256 _ Try.underlying28 rfl size28 b7 (by rw [HLN.out]; omega) rfl _ rfl rfl ?_) | (refine wpList_store_box 28 28 (half l false) (half l true) w5.heap.size (by rw [HHL.out]; exact size28) (HHO.out _) s7.box ((HHL.out _).trans (HHL.out _).symm) rfl _ _ rfl rfl rfl ?_))
    intro w8 s8
    have b8 := s8.keep b7 (by omega)
    have r8 := s8.keep r7 (by omega)
    have HB8 := Hid.mk' (s8.below _ _ (by omega) HB7.out)
    have x8 := Hid.mk' s8.box
    have y8 := s8.size
    have z8 : w5.heap.size < w8.heap.size := by omega
    clear b7 r7 s7 s8 y8 z7
    have hc8 := x8.out.cell HHG.out
    go_wp2_with fail
    refine (HAS.out _).mono ?_
    rintro e w9 ⟨rfl, h9⟩
    have b9 := b8.later h9
    have r9 := r8.later h9
    have x9 := x8.out.later h9
    have HB9 := Hid.mk' (HB8.out.trans (h9.mono (by omega)))
    have hc9 := x9.cell HHG.out
    have hf9 := x9.frozen
    have S10 := Stored.cell x9 k (.int .u8 r1)
    have x10 := Hid.mk' S10.box
    have b10 := S10.keep b9 (by omega)
    have r10 := Hid.mk' (S10.keep r9 (by omega))
    have HB10 := Hid.mk' (S10.below _ _ (by omega) HB9.out)
    have q1 : w.heap.size < w1.heap.size := by omega
    have q2 : w1.heap.size ≠ w.heap.size := by omega
    clear S10 b8 r8 b9 r9 x9 h9 hc8 z8 z1 z2 z4
    go_wp2_with (first | (refine wpList_load_box 28 28 ((half l true).set k (.int .u8 r1)) w5.heap.size _ Try.underlying28 rfl (by rw [List.length_set, HHL.out]; exact size28) x10.out rfl _ rfl rfl ?_) | (refine wpList_store_part 28 32 l ((half l true).set k (.int .u8 r1)) w.heap.size 0 (by rw [List.length_set, HHL.out]; exact size28) HHS.out b10 (by rw [List.length_set, HHL.out, HLN.out]; omega) rfl _ _ rfl rfl rfl ?_))
    intro wq sq
    have bq := Hid.mk' sq.box
    have rq := Hid.mk' (sq.keep r10.out q2)
    have HBQ := Hid.mk' (sq.below _ _ (Nat.le_refl _) HB10.out)
    rw [show lay l 0 ((half l true).set k (.int .u8 r1)) = l' from HLY.out] at bq
    clear sq b10 hc9 hf9
    have hL1 : ∀ w', Below w1.heap.size wq w' → Lies w' (.pointer (some ⟨w.heap.size, 0, none⟩)) 520 := fun w' h => (bq.out.below h q1).lies0 HP.out.len
    have hR1 : ∀ w', Below w1.heap.size wq w' → rowAt w' (.pointer (some ⟨w.heap.size, 0, none⟩)) 520 = l' := fun w' h => (bq.out.below h q1).row0 HP.out.len
    have hL3 : ∀ w', HasBox w' w1.heap.size 32 520 → Lies w' (.pointer (some ⟨w1.heap.size, 0, none⟩)) 520 := fun w' h => h.lies
    have hH := HP.out.holds
    have H9 : Hid (Below w1.heap.size wq wq.drew ∧ HasBox wq.drew w1.heap.size 32 520) := ⟨(Below.refl _ _).drew, z, rq.out.drew, HZN.out⟩
    have hle := Nat.le_of_lt q1
    go_wp2_with fail
    go_region_held3 (fun w' => Below w1.heap.size wq w' ∧ HasBox w' w1.heap.size 32 520) (first | assumption | exact H9.out | (refine kept9s ?_ HP.out.len; assumption) | (refine kept9 ?_ hb; assumption)) (first | (go_at_call 32; refine (HSA.out _).mono ?_; rintro e wz ⟨rfl, hb⟩; have hq : HasBox wz w1.heap.size 32 520 := HasBox.later (And.right ‹Below w1.heap.size wq _ ∧ HasBox _ w1.heap.size 32 520›) hb))
    have h9 := And.left ‹Below w1.heap.size wq _ ∧ HasBox _ w1.heap.size 32 520›
    have s9 := hq.put l' HP.out.len
    clear hL1 hR1 hL3 hH H9
    go_wp2
    exact ret_box3 Try.results18 32 l' w1.heap.size _ Try.underlying32 rfl HS'.out _ _ rfl rfl rfl s9.box rfl ⟨rfl, HBQ.out.trans (h9.mono hle)⟩
  | false =>
    go_enter Try.func18, Try.ntmps18
    go_wp2_with (refine wpList_box l 32 rfl _ rfl rfl ?_)
    intro w1 m1
    go_wp2_with (refine wpList_alloc z 32 HZ.out rfl rfl ?_)
    intro w2 m2
    have z1 := m1.lt
    have z2 := m2.lt
    have b3 := m2.keep m1.box
    have HB3 := Hid.mk' (m2.below w.heap.size w (by omega) (m1.below _ _ (Nat.le_refl _) (Below.refl _ w)))
    go_wp2_with (refine wpList_load_box 32 32 l w.heap.size _ Try.underlying32 rfl HS.out b3 rfl _ rfl rfl ?_)
    refine (HC.out _).mono ?_
    rintro e w4 ⟨rfl, h4⟩
    have b4 := b3.later h4
    have r4 := m2.box.later h4
    have HB4 := Hid.mk' (HB3.out.trans (h4.mono (by omega)))
    have z4 := h4.size
    clear b3 h4 m1 m2
    go_wp2_with fail
    refine (HI.out _).mono ?_
    rintro e w5 ⟨rfl, rfl⟩
    go_wp2_with (first | (refine wpList_load_part 28 32 l w.heap.size 256 256 _ Try.underlying28 rfl size28 b4 (by rw [HLN.out]; omega) rfl _ rfl rfl ?_) | (refine wpList_alloc y 28 HY.out rfl rfl ?_))
    intro w6 m6
    have b6 := m6.keep b4
    have r6 := m6.keep r4
    have z6 := m6.lt
    have HB6 := Hid.mk' (m6.below _ _ (by omega) HB4.out)
    go_wp2_with (refine wpList_store_box 28 28 y (half l false) w5.heap.size (by rw [HHL.out]; exact size28) (HHO.out _) m6.box (HYN.out.trans (HHL.out _).symm) rfl _ _ rfl rfl rfl ?_)
    intro w7 s7
    have b7 := s7.keep b6 (by omega)
    have r7 := s7.keep r6 (by omega)
    have HB7 := Hid.mk' (s7.below _ _ (by omega) HB6.out)
    have y7 := s7.size
    clear b4 r4 b6 r6
    have b8 := b7
    have r8 := r7
    have HB8 := HB7
    have x8 := Hid.mk' s7.box
    have z8 : w5.heap.size < w7.heap.size := by omega
    clear b7 r7 s7 y7 m6 z6
    have hc8 := x8.out.cell HHG.out
    go_wp2_with fail
    refine (HAS.out _).mono ?_
    rintro e w9 ⟨rfl, h9⟩
    have b9 := b8.later h9
    have r9 := r8.later h9
    have x9 := x8.out.later h9
    have HB9 := Hid.mk' (HB8.out.trans (h9.mono (by omega)))
    have hc9 := x9.cell HHG.out
    have hf9 := x9.frozen
    have S10 := Stored.cell x9 k (.int .u8 r1)
    have x10 := Hid.mk' S10.box
    have b10 := S10.keep b9 (by omega)
    have r10 := Hid.mk' (S10.keep r9 (by omega))
    have HB10 := Hid.mk' (S10.below _ _ (by omega) HB9.out)
    have q1 : w.heap.size < w1.heap.size := by omega
    have q2 : w1.heap.size ≠ w.heap.size := by omega
    clear S10 b8 r8 b9 r9 x9 h9 hc8 z8 z1 z2 z4
    go_wp2_with (first | (refine wpList_load_box 28 28 ((half l false).set k (.int .u8 r1)) w5.heap.size _ Try.underlying28 rfl (by rw [List.length_set, HHL.out]; exact size28) x10.out rfl _ rfl rfl ?_) | (refine wpList_store_part 28 32 l ((half l false).set k (.int .u8 r1)) w.heap.size 256 (by rw [List.length_set, HHL.out]; exact size28) HHS.out b10 (by rw [List.length_set, HHL.out, HLN.out]; omega) rfl _ _ rfl rfl rfl ?_))
    intro wq sq
    have bq := Hid.mk' sq.box
    have rq := Hid.mk' (sq.keep r10.out q2)
    have HBQ := Hid.mk' (sq.below _ _ (Nat.le_refl _) HB10.out)
    rw [show lay l 256 ((half l false).set k (.int .u8 r1)) = l' from HLY.out] at bq
    clear sq b10 hc9 hf9
    have hL1 : ∀ w', Below w1.heap.size wq w' → Lies w' (.pointer (some ⟨w.heap.size, 0, none⟩)) 520 := fun w' h => (bq.out.below h q1).lies0 HP.out.len
    have hR1 : ∀ w', Below w1.heap.size wq w' → rowAt w' (.pointer (some ⟨w.heap.size, 0, none⟩)) 520 = l' := fun w' h => (bq.out.below h q1).row0 HP.out.len
    have hL3 : ∀ w', HasBox w' w1.heap.size 32 520 → Lies w' (.pointer (some ⟨w1.heap.size, 0, none⟩)) 520 := fun w' h => h.lies
    have hH := HP.out.holds
    have H9 : Hid (Below w1.heap.size wq wq.drew ∧ HasBox wq.drew w1.heap.size 32 520) := ⟨(Below.refl _ _).drew, z, rq.out.drew, HZN.out⟩
    have hle := Nat.le_of_lt q1
    go_wp2_with fail
    go_region_held3 (fun w' => Below w1.heap.size wq w' ∧ HasBox w' w1.heap.size 32 520) (first | assumption | exact H9.out | (refine kept9s ?_ HP.out.len; assumption) | (refine kept9 ?_ hb; assumption)) (first | (go_at_call 32; refine (HSA.out _).mono ?_; rintro e wz ⟨rfl, hb⟩; have hq : HasBox wz w1.heap.size 32 520 := HasBox.later (And.right ‹Below w1.heap.size wq _ ∧ HasBox _ w1.heap.size 32 520›) hb))
    have h9 := And.left ‹Below w1.heap.size wq _ ∧ HasBox _ w1.heap.size 32 520›
    have s9 := hq.put l' HP.out.len
    clear hL1 hR1 hL3 hH H9
    go_wp2
    exact ret_box3 Try.results18 32 l' w1.heap.size _ Try.underlying32 rfl HS'.out _ _ rfl rfl rfl s9.box rfl ⟨rfl, HBQ.out.trans (h9.mono hle)⟩

theorem Wanted_any (l : List Value) (hl : NegL l) (us : Bool) (op : Int) (on : Bool) (w : World) :
    Calls Try.prog 18 #[.agg l.toArray, .bool us, .int .i64 op, .bool on] w fun e w' => e = .returned (RNeg (wantR l us op on).1 (wantR l us op on).2.1 (wantR l us op on).2.2) ∧ Below w.heap.size w w' := by
  unfold wantR
  cases hr : right l with
  | false => exact Wanted_form l hl hr us on op w
  | true =>
    rw [if_pos rfl]
    cases hi : isOp op with
    | false => exact Wanted_arg l hl hr us on op hi w
    | true =>
      rw [if_pos rfl]
      obtain ⟨hk, ho⟩ := isOp_yes hi
      generalize op.toNat = k at *
      subst ho
      have H := Wanted_ok l hl hr us on k hk w (ask (st l (place us k)) on).1 (ask (st l (place us k)) on).2.1 (ask (st l (place us k)) on).2.2 rfl
      by_cases h0 : (ask (st l (place us k)) on).2.2 = 0
      · rw [if_pos h0]
        rw [h0] at H
        exact H
      · rw [if_neg h0]
        obtain ⟨e1, e2⟩ := ask_err _ _ h0
        rw [e1, e2, putSt_same hl us hk] at H
        exact H
end Go.Proofs.Ytfehlfjondelnaa.Q
