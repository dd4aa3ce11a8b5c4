/-
  Contracts of qneg.Check, stateOf, withState, mayBeOn: a Neg of whatever cells; condition: the option is from 0 to 255.
-/
import Derived.Test.YtfehlfjondelnabQInts
import Derived.Test.YtfehlfjondelnabQMem
namespace Go.Proofs.Ytfehlfjondelnab.Q
open Go.RowKit Go.Proofs.Ytfehlfjondelnab

theorem info32 : (Try.prog.info? 31).map (fun i => (i.zero, i.size)) = some (some (.agg (List.replicate 512 (Value.int .u8 0) ++ List.replicate 8 (Value.int .u64 0)).toArray), 520) := by kernel_rfl
theorem size32 : (Try.prog.info? 31).map (·.size) = some 520 := (zero_of_info info32).2
theorem rep_len (m n : Nat) (x y : Value) : (List.replicate m x ++ List.replicate n y).length = m + n := by simp
theorem rep_left (m n j : Nat) (x y : Value) (h : j < m) : (List.replicate m x ++ List.replicate n y)[j]? = some x := by
  rw [List.getElem?_append_left (by simpa using h), List.getElem?_replicate, if_pos h]
theorem rep_right (m n j : Nat) (x y : Value) (h : m ≤ j) (h2 : j < m + n) : (List.replicate m x ++ List.replicate n y)[j]? = some y := by
  rw [List.getElem?_append_right (by simpa using h), List.getElem?_replicate, if_pos (by simp; omega)]
theorem zeroL : NegL (List.replicate 512 (Value.int .u8 0) ++ List.replicate 8 (Value.int .u64 0)) :=
  ⟨rep_len 512 8 _ _, fun j hj => ⟨0, by omega, rep_left 512 8 j _ _ hj⟩, fun j h1 h2 => ⟨0, by omega, rep_right 512 8 j _ _ h1 h2⟩⟩
theorem zero32 : ∃ z : List Value, NegL z ∧ ∀ w, (zeroValue 31).run Try.prog w = .ok (.agg z.toArray) w := ⟨_, zeroL, (zero_of_info info32).1⟩

set_option maxHeartbeats 4000000 in
theorem stateOf_any (l : List Value) (hl : NegL l) (us : Bool) (k : Nat) (hk : k < 256) (w : World) :
    Calls Try.prog 16 #[.agg l.toArray, .bool us, .int .i64 (k : Int)] w fun e w' => e = .returned (.int .i64 (st l (place us k))) ∧ Below w.heap.size w w' := by
  obtain ⟨hc, h0, h1⟩ := hl.byte (place_lt us hk)
  have HB : Hid (Box (w.alloc (.cells l.toArray 31)) w.heap.size 31 l) := Box.new w _ l
  have hcell := HB.out.cell hc
  have k0 : (0 : Int) ≤ (k : Int) := by omega
  have k1 : (k : Int) < 256 := by omega
  generalize st l (place us k) = x at *
  cases us with
  | true =>
    rw [show place true k = k from rfl] at hcell
    clear hc hl
    go_enter Try.func16, Try.ntmps16
    go_wp2
    go_ret
    exact ⟨rfl, (Below.refl _ _).alloc (Nat.le_refl _) _⟩
  | false =>
    rw [show place false k = 256 + k from rfl] at hcell
    clear hc hl
    go_enter Try.func16, Try.ntmps16
    go_wp2
    go_ret
    exact ⟨rfl, (Below.refl _ _).alloc (Nat.le_refl _) _⟩

set_option maxHeartbeats 4000000 in
theorem withState_any (l : List Value) (hl : NegL l) (us : Bool) (k : Nat) (hk : k < 256) (s : Int) (h0 : 0 ≤ s) (h1 : s < 256) (w : World) :
    Calls Try.prog 18 #[.agg l.toArray, .bool us, .int .i64 (k : Int), .int .i64 s] w fun e w' => e = .returned (.agg (putSt l us k s).toArray) ∧ Below w.heap.size w w' := by
  obtain ⟨z, hz, hzw⟩ := zero32
  have HZ := Hid.mk' hzw
  have HP := Hid.mk' (hl.put us hk h0 h1)
  have k0 : (0 : Int) ≤ (k : Int) := by omega
  have k1 : (k : Int) < 256 := by omega
  have s1 : s ≤ 255 := by omega
  have HC := Hid.mk' (hl.byte (place_lt us hk)).1
  have HS : Hid ((Try.prog.info? 31).map (·.size) = some (putSt l us k s).length) := by rw [HP.out.len]; exact size32
  have HN : Hid (z.length = (putSt l us k s).length) := by rw [HP.out.len]; exact hz.len
  have HV : Hid (l.set (place us k) (.int .u8 s) = putSt l us k s) := rfl
  generalize putSt l us k s = l' at *
  clear hzw hl hz
  cases us with
  | true =>
    rw [show place true k = k from rfl] at HC HV
    go_enter Try.func18, Try.ntmps18
    go_wp2_with (refine wpList_box l 31 rfl _ rfl rfl ?_)
    intro w1 m1
    go_wp2_with (refine wpList_alloc z 31 HZ.out rfl rfl ?_)
    intro w2 m2
    have hcell := (m2.keep m1.box).cell HC.out
    have hfr := (m2.keep m1.box).frozen
    have S3 := Hid.mk' (Stored.cell (m2.keep m1.box) (k) (.int .u8 s))
    rw [HV.out] at S3
    have z1 := m1.size
    have z2 := m2.size
    have HB3 : Hid (Box (w2.setCell ⟨w.heap.size, k, none⟩ (.int .u8 s)) w1.heap.size 31 z) := S3.out.keep m2.box (by omega)
    have HL3 := Hid.mk' (S3.out.below _ _ (Nat.le_refl _) (m2.below _ _ (by omega) (m1.below _ _ (Nat.le_refl _) (Below.refl _ w))))
    have hne : w.heap.size ≤ w1.heap.size := by omega
    clear z1 z2 m1 m2
    go_wp2_with (first | (refine wpList_load_box 31 31 l' w.heap.size _ Try.underlying31 rfl HS.out S3.out.box rfl _ rfl rfl ?_) | (refine wpList_store_box 31 31 z l' w1.heap.size HS.out HP.out.one HB3.out HN.out rfl _ _ rfl rfl rfl ?_))
    intro w4 s4
    go_wp2
    exact ret_box Try.results18 31 l' w1.heap.size _ Try.underlying31 rfl HS.out rfl s4.box rfl ⟨rfl, s4.below _ _ hne HL3.out⟩
  | false =>
    rw [show place false k = 256 + k from rfl] at HC HV
    go_enter Try.func18, Try.ntmps18
    go_wp2_with (refine wpList_box l 31 rfl _ rfl rfl ?_)
    intro w1 m1
    go_wp2_with (refine wpList_alloc z 31 HZ.out rfl rfl ?_)
    intro w2 m2
    have hcell := (m2.keep m1.box).cell HC.out
    have hfr := (m2.keep m1.box).frozen
    have S3 := Hid.mk' (Stored.cell (m2.keep m1.box) (256 + k) (.int .u8 s))
    rw [HV.out] at S3
    have z1 := m1.size
    have z2 := m2.size
    have HB3 : Hid (Box (w2.setCell ⟨w.heap.size, 256 + k, none⟩ (.int .u8 s)) w1.heap.size 31 z) := S3.out.keep m2.box (by omega)
    have HL3 := Hid.mk' (S3.out.below _ _ (Nat.le_refl _) (m2.below _ _ (by omega) (m1.below _ _ (Nat.le_refl _) (Below.refl _ w))))
    have hne : w.heap.size ≤ w1.heap.size := by omega
    clear z1 z2 m1 m2
    go_wp2_with (first | (refine wpList_load_box 31 31 l' w.heap.size _ Try.underlying31 rfl HS.out S3.out.box rfl _ rfl rfl ?_) | (refine wpList_store_box 31 31 z l' w1.heap.size HS.out HP.out.one HB3.out HN.out rfl _ _ rfl rfl rfl ?_))
    intro w4 s4
    go_wp2
    exact ret_box Try.results18 31 l' w1.heap.size _ Try.underlying31 rfl HS.out rfl s4.box rfl ⟨rfl, s4.below _ _ hne HL3.out⟩
end Go.Proofs.Ytfehlfjondelnab.Q
