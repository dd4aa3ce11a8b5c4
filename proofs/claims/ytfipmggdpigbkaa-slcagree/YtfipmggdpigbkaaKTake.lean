/-
  Contract of slc.Take where it is refused; condition: 38 bytes.
-/
import Derived.Test.YtfipmggdpigbkaaKHear2
import Derived.Test.YtfipmggdpigbkaaKCheck
import Derived.Deep.LoopGhost
namespace Go.Proofs.Ytfipmggdpigbkaa.K
open Go.RowKit Go.Lib Go.Proofs.Ytfipmggdpigbkaa Go.Proofs.Ytfipmggdpigbkaa.W Go.Proofs.Ytfipmggdpigbkaa.Q

theorem hear_any (k : List UInt8) (hk : k.length = 38) (f g c : UInt8) (w : World) :
    Calls Try.prog 18 #[KV k, T3 f g c] w fun e w' => HR k f g c e ∧ Below w.heap.size w w' := by
  cases h : isF f with
  | true => exact hear_in k hk f g c h w
  | false => exact hear_out k hk f g c h w

def RK (r : List UInt8 × List UInt8 × Int) : Value := .tuple #[KV r.1, .string (bs r.2.1), .int .i64 r.2.2]

theorem takeT_form {k : List UInt8} (h : chk k = 4) (d : List UInt8) : takeT k d = (k, [], 4) := by
  unfold takeT chk at *
  split at h
  · cases h
  · rename_i hr; rw [if_neg hr]
theorem chk_two (k : List UInt8) : chk k = 0 ∨ chk k = 4 := by unfold chk; split <;> simp
theorem right_of {k : List UInt8} (h : chk k = 0) : right k = true := by
  unfold chk at h
  split at h
  · assumption
  · cases h
theorem takeT_len3 {k : List UInt8} (h : chk k = 0) {d : List UInt8} (h3 : ¬ d.length % 3 = 0) : takeT k d = (k, [], 4) := by
  unfold takeT; rw [if_pos (right_of h), if_neg h3]
theorem takeT_large {k : List UInt8} (h : chk k = 0) {d : List UInt8} (h3 : d.length % 3 = 0) (h4 : ¬ d.length ≤ 300) : takeT k d = (k, [], 2) := by
  unfold takeT; rw [if_pos (right_of h), if_pos h3, if_neg h4]
theorem takeT_ok {k : List UInt8} (h : chk k = 0) {d : List UInt8} (h3 : d.length % 3 = 0) (h4 : d.length ≤ 300) : takeT k d = ((run k d).1, (run k d).2, 0) := by
  unfold takeT; rw [if_pos (right_of h), if_pos h3, if_pos h4]

set_option maxHeartbeats 8000000 in
theorem Take_no (k : List UInt8) (hk : k.length = 38) (s : ByteArray) (er : Int) (he : (chk k = 4 ∧ er = 4) ∨ (chk k = 0 ∧ ¬ s.size % 3 = 0 ∧ er = 4) ∨ (chk k = 0 ∧ s.size % 3 = 0 ∧ 300 < s.size ∧ er = 2)) (hz : s.size ≤ 9223372036854775807) (w : World) :
    Calls Try.prog 9 #[KV k, .string s] w fun e w' => e = .returned (RK (k, [], er)) ∧ Below w.heap.size w w' := by
  have HZK := Hid.mk' zeroK
  have HC := Hid.mk' (Check_any k hk)
  have HL := Hid.mk' (bcells_one k)
  have HS := Hid.mk' (sizeKV k hk)
  have HN : Hid ((bcells noK).length = (bcells k).length) := by rw [bcells_length, bcells_length, hk]; rfl
  have HR : Hid (RK (k, [], er) = .tuple #[.agg (bcells k).toArray, .string ⟨#[]⟩, .int .i64 er]) := rfl
  unfold KV at *
  generalize bcells k = l at *
  rcases he with ⟨h1, rfl⟩ | ⟨h1, h2, rfl⟩ | ⟨h1, h2, h3, rfl⟩
  all_goals
    rw [h1] at HC
    go_enter Try.func9, Try.ntmps9
    go_wp2_with (refine wpList_box l 24 rfl _ rfl rfl ?_)
    intro w1 m1
    go_wp2_with (refine wpList_alloc (bcells noK) 24 HZK.out rfl rfl ?_)
    intro w2 m2
    have z1 := m1.lt
    have b2 := m2.keep m1.box
    have c2 := m2.box
    have HB2 := Hid.mk' (m2.below w.heap.size w (by omega) (m1.below _ _ (Nat.le_refl _) (Below.refl _ w)))
    have z2 := m2.lt
    go_wp2_with (refine wpList_load_box 24 24 l w.heap.size _ Try.underlying24 rfl HS.out b2 rfl _ rfl rfl ?_)
    refine (HC.out _).mono ?_
    rintro e w3 ⟨rfl, h3'⟩
    have b3 := b2.later h3'
    have c3 := c2.later h3'
    have HB3 := Hid.mk' (HB2.out.trans (h3'.mono (by omega)))
    have hle : w.heap.size ≤ w1.heap.size := by omega
    clear m1 m2 b2 c2 h3' z1 z2
    have hs0 : (0 : Int) ≤ (s.size : Int) := by omega
    have hs1 : (s.size : Int) ≤ 9223372036854775807 := by omega
    go_wp2_with (first | (refine wpList_load_box 24 24 l w.heap.size _ Try.underlying24 rfl HS.out b3 rfl _ rfl rfl ?_) | (refine wpList_store_box 24 24 (bcells noK) l w1.heap.size HS.out HL.out c3 HN.out rfl _ _ rfl rfl rfl ?_))
    intro w4 s4
    have b4 := s4.box
    have HB4 := Hid.mk' (s4.below _ _ hle HB3.out)
    clear s4 b3 c3
    go_wp2
    exact ret_box3 Try.results9 24 l w1.heap.size _ Try.underlying24 rfl HS.out _ _ rfl rfl rfl b4 rfl ⟨by rw [HR.out]; rfl, HB4.out⟩

end Go.Proofs.Ytfipmggdpigbkaa.K
