/-
  Contracts of line.Check, refusal and Type; conditions: Keys of 38 bytes, a set of four words of 64 bits.
-/
import Derived.Test.YtomgnnbcaficaaaDoorLTaken
namespace Go.Proofs.YtomgnnbcaficaaaDoor.L
open Go.RowKit Go.Lib Go.Proofs.YtomgnnbcaficaaaDoor Go.Proofs.YtomgnnbcaficaaaDoor.W Go.Proofs.YtomgnnbcaficaaaDoor.Q

/-- an Editor as a value -/
def edCells (B : ByteArray) (q : Bool) : List Value := [.string B, .bool q]
def EV (B : ByteArray) (q : Bool) : Value := .agg (edCells B q).toArray
theorem infoE : (Tryd.prog.info? 23).map (fun i => (i.zero, i.size)) = some (some (EV ⟨#[]⟩ false), 2) := by kernel_rfl
theorem zeroE : ∀ w, (zeroValue 23).run Tryd.prog w = .ok (.agg (edCells ⟨#[]⟩ false).toArray) w := (K.zero_of infoE).1
theorem sizeE : (Tryd.prog.info? 23).map (·.size) = some 2 := (K.zero_of infoE).2
theorem edCells_one (B : ByteArray) (q : Bool) : ∀ u ∈ edCells B q, u.oneCell' = true := by
  intro u hu
  simp only [edCells, List.mem_cons, List.not_mem_nil, or_false] at hu
  rcases hu with rfl | rfl <;> rfl

/-- the error for a line that is too long -/
def lchk (n : Nat) : Int := if 1024 ≤ n then 2 else 0
set_option maxHeartbeats 4000000 in
set_option maxRecDepth 100000 in
theorem lCheck_any (B : ByteArray) (q : Bool) (w : World) : Calls Tryd.prog 12 #[EV B q] w fun e w' => e = .returned (.int .i64 (lchk B.size)) ∧ Below w.heap.size w w' := by
  unfold EV edCells lchk
  by_cases h : 1024 ≤ B.size
  · rw [if_pos h]
    go_enter Tryd.func12, Tryd.ntmps12
    go_wp2
    go_ret
    exact ⟨rfl, (Below.refl _ _).alloc (Nat.le_refl _) _⟩
  · rw [if_neg h]
    go_enter Tryd.func12, Tryd.ntmps12
    go_wp2
    go_ret
    exact ⟨rfl, (Below.refl _ _).alloc (Nat.le_refl _) _⟩

/-- the error for which nothing is typed -/
def ref (n : Nat) (k : List UInt8) (m : Nat) : Int := if 1024 ≤ n then 2 else if K.chk k = 0 then (if 4096 < m then 2 else 0) else K.chk k
theorem chk_two (k : List UInt8) : K.chk k = 0 ∨ K.chk k = 4 := by
  unfold K.chk
  split
  · exact .inl rfl
  · exact .inr rfl

set_option maxHeartbeats 4000000 in
set_option maxRecDepth 100000 in
theorem refusal_any (B : ByteArray) (q : Bool) (k : List UInt8) (hk : k.length = 38) (T : ByteArray) (w : World) :
    Calls Tryd.prog 27 #[EV B q, K.KV k, .string T] w fun e w' => e = .returned (.int .i64 (ref B.size k T.size)) ∧ Below w.heap.size w w' := by
  have HC := Hid.mk' (lCheck_any B q)
  have HK := Hid.mk' (K.Check_any k hk)
  have HS := Hid.mk' (K.sizeKV k hk)
  have HSE : Hid ((Tryd.prog.info? 23).map (·.size) = some (edCells B q).length) := sizeE
  have hR : ref B.size k T.size = if 1024 ≤ B.size then 2 else if K.chk k = 0 then (if 4096 < T.size then 2 else 0) else K.chk k := rfl
  have hc2 := chk_two k
  rw [hR]
  unfold lchk at HC
  unfold EV K.KV at *
  generalize bcells k = l at *
  generalize edCells B q = E at *
  clear hR hk
  generalize K.chk k = r at *
  by_cases hB : 1024 ≤ B.size
  · rw [if_pos hB] at *
    clear hB
    go_enter Tryd.func27, Tryd.ntmps27
    go_wp2_with (refine wpList_box E 23 rfl _ rfl rfl ?_)
    intro w1 m1
    go_wp2_with (refine wpList_box l 26 rfl _ rfl rfl ?_)
    intro w2 m2
    have b1 := Hid.mk' (m2.keep m1.box)
    have HB2 := Hid.mk' (m2.below w.heap.size w (Nat.le_of_lt m1.lt) (m1.below _ _ (Nat.le_refl _) (Below.refl _ w)))
    clear m1 m2
    go_wp2_with (with_reducible refine wpList_load_box 23 23 E w.heap.size _ Tryd.underlying23 rfl HSE.out b1.out rfl _ rfl rfl ?_)
    refine (HC.out _).mono ?_
    rintro e w3 ⟨rfl, h3⟩
    have HB3 := Hid.mk' (HB2.out.trans (Below.mono h3 HB2.out.size))
    clear h3 HB2 b1
    go_wp2
    go_ret
    exact ⟨rfl, HB3.out⟩
  · rw [if_neg hB] at *
    clear hB
    rcases hc2 with rfl | rfl
    · by_cases hm : 4096 < T.size
      · have hm2 : (4096 : Int) < (T.size : Int) := by omega
        rw [if_pos rfl, if_pos hm]
        clear hm
        go_enter Tryd.func27, Tryd.ntmps27
        go_wp2_with (refine wpList_box E 23 rfl _ rfl rfl ?_)
        intro w1 m1
        go_wp2_with (refine wpList_box l 26 rfl _ rfl rfl ?_)
        intro w2 m2
        have b1 := Hid.mk' (m2.keep m1.box)
        have b2 := Hid.mk' m2.box
        have HB2 := Hid.mk' (m2.below w.heap.size w (Nat.le_of_lt m1.lt) (m1.below _ _ (Nat.le_refl _) (Below.refl _ w)))
        clear m1 m2
        go_wp2_with (with_reducible refine wpList_load_box 23 23 E w.heap.size _ Tryd.underlying23 rfl HSE.out b1.out rfl _ rfl rfl ?_)
        refine (HC.out _).mono ?_
        rintro e w3 ⟨rfl, h3⟩
        have b3 := Hid.mk' (b2.out.later h3)
        have HB3 := Hid.mk' (HB2.out.trans (Below.mono h3 HB2.out.size))
        clear h3 HB2 b1 b2
        go_wp2_with (with_reducible refine wpList_load_box 26 26 l w1.heap.size _ Tryd.underlying26 rfl HS.out b3.out rfl _ rfl rfl ?_)
        refine (HK.out _).mono ?_
        rintro e w4 ⟨rfl, h4⟩
        have HB4 := Hid.mk' (HB3.out.trans (Below.mono h4 HB3.out.size))
        clear h4 HB3 b3
        go_wp2
        go_ret
        exact ⟨rfl, HB4.out⟩
      · have hm2 : ¬ (4096 : Int) < (T.size : Int) := by omega
        rw [if_pos rfl, if_neg hm]
        clear hm
        go_enter Tryd.func27, Tryd.ntmps27
        go_wp2_with (refine wpList_box E 23 rfl _ rfl rfl ?_)
        intro w1 m1
        go_wp2_with (refine wpList_box l 26 rfl _ rfl rfl ?_)
        intro w2 m2
        have b1 := Hid.mk' (m2.keep m1.box)
        have b2 := Hid.mk' m2.box
        have HB2 := Hid.mk' (m2.below w.heap.size w (Nat.le_of_lt m1.lt) (m1.below _ _ (Nat.le_refl _) (Below.refl _ w)))
        clear m1 m2
        go_wp2_with (with_reducible refine wpList_load_box 23 23 E w.heap.size _ Tryd.underlying23 rfl HSE.out b1.out rfl _ rfl rfl ?_)
        refine (HC.out _).mono ?_
        rintro e w3 ⟨rfl, h3⟩
        have b3 := Hid.mk' (b2.out.later h3)
        have HB3 := Hid.mk' (HB2.out.trans (Below.mono h3 HB2.out.size))
        clear h3 HB2 b1 b2
        go_wp2_with (with_reducible refine wpList_load_box 26 26 l w1.heap.size _ Tryd.underlying26 rfl HS.out b3.out rfl _ rfl rfl ?_)
        refine (HK.out _).mono ?_
        rintro e w4 ⟨rfl, h4⟩
        have HB4 := Hid.mk' (HB3.out.trans (Below.mono h4 HB3.out.size))
        clear h4 HB3 b3
        go_wp2
        go_ret
        exact ⟨rfl, HB4.out⟩
    · rw [if_neg (by decide)]
      go_enter Tryd.func27, Tryd.ntmps27
      go_wp2_with (refine wpList_box E 23 rfl _ rfl rfl ?_)
      intro w1 m1
      go_wp2_with (refine wpList_box l 26 rfl _ rfl rfl ?_)
      intro w2 m2
      have b1 := Hid.mk' (m2.keep m1.box)
      have b2 := Hid.mk' m2.box
      have HB2 := Hid.mk' (m2.below w.heap.size w (Nat.le_of_lt m1.lt) (m1.below _ _ (Nat.le_refl _) (Below.refl _ w)))
      clear m1 m2
      go_wp2_with (with_reducible refine wpList_load_box 23 23 E w.heap.size _ Tryd.underlying23 rfl HSE.out b1.out rfl _ rfl rfl ?_)
      refine (HC.out _).mono ?_
      rintro e w3 ⟨rfl, h3⟩
      have b3 := Hid.mk' (b2.out.later h3)
      have HB3 := Hid.mk' (HB2.out.trans (Below.mono h3 HB2.out.size))
      clear h3 HB2 b1 b2
      go_wp2_with (with_reducible refine wpList_load_box 26 26 l w1.heap.size _ Tryd.underlying26 rfl HS.out b3.out rfl _ rfl rfl ?_)
      refine (HK.out _).mono ?_
      rintro e w4 ⟨rfl, h4⟩
      have HB4 := Hid.mk' (HB3.out.trans (Below.mono h4 HB3.out.size))
      clear h4 HB3 b3
      go_wp2
      go_ret
      exact ⟨rfl, HB4.out⟩
end Go.Proofs.YtomgnnbcaficaaaDoor.L
