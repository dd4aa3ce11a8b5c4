/-
  Contracts of package parse's tests of a rune, and of strings.ContainsRune at a sign below 128; no condition.
-/
import Derived.Test.YtneiiinheimglaaDoorBPut
import Derived.Test.YtneiiinheimglaaDoorBShelf
import Derived.Test.YtneiiinheimglaaDoorBBack
import Derived.Lib.IndexLaws
import Derived.BigQuiet
namespace Go.Proofs.YtneiiinheimglaaDoor.B
open Go.RowKit Go.Lib Go.Proofs.YtneiiinheimglaaDoor Go.Proofs.YtneiiinheimglaaDoor.W Go.Proofs.YtneiiinheimglaaDoor.Q Go.Proofs.YtneiiinheimglaaDoor.C Go.Proofs.YtneiiinheimglaaDoor.Z

set_option maxHeartbeats 1000000 in
theorem isControl_any (c : Int) (w : World) : Calls Tryd.prog 58 #[.int .i64 c] w fun e w' => e = .returned (.bool (decide (0 ≤ c ∧ c ≤ 31))) ∧ w' = w := by
  by_cases h1 : 0 ≤ c
  · by_cases h2 : c ≤ 31
    · rw [decide_eq_true (And.intro h1 h2)]
      have h3 : c < 32 := by omega
      go_enter Tryd.func58, Tryd.ntmps58
      go_wp2
      go_ret
      exact ⟨rfl, rfl⟩
    · rw [decide_eq_false (fun h => h2 h.2)]
      have h3 : ¬ c < 32 := by omega
      go_enter Tryd.func58, Tryd.ntmps58
      go_wp2
      go_ret
      exact ⟨rfl, rfl⟩
  · rw [decide_eq_false (fun h => h1 h.1)]
    go_enter Tryd.func58, Tryd.ntmps58
    go_wp2
    go_ret
    exact ⟨rfl, rfl⟩

set_option maxHeartbeats 1000000 in
theorem isMute_any (c : Int) (w : World) : Calls Tryd.prog 56 #[.int .i64 c] w fun e w' => e = .returned (.bool (decide (127 ≤ c ∧ c ≤ 159))) ∧ w' = w := by
  by_cases h1 : 127 ≤ c
  · by_cases h2 : c ≤ 159
    · rw [decide_eq_true (And.intro h1 h2)]
      have h3 : c < 160 := by omega
      go_enter Tryd.func56, Tryd.ntmps56
      go_wp2
      go_ret
      exact ⟨rfl, rfl⟩
    · rw [decide_eq_false (fun h => h2 h.2)]
      have h3 : ¬ c < 160 := by omega
      go_enter Tryd.func56, Tryd.ntmps56
      go_wp2
      go_ret
      exact ⟨rfl, rfl⟩
  · rw [decide_eq_false (fun h => h1 h.1)]
    go_enter Tryd.func56, Tryd.ntmps56
    go_wp2
    go_ret
    exact ⟨rfl, rfl⟩

set_option maxHeartbeats 1000000 in
theorem isMark_any (c : Int) (w : World) : Calls Tryd.prog 49 #[.int .i64 c] w fun e w' => e = .returned (.bool (decide (60 ≤ c ∧ c ≤ 63))) ∧ w' = w := by
  by_cases h1 : 60 ≤ c
  · by_cases h2 : c ≤ 63
    · rw [decide_eq_true (And.intro h1 h2)]
      have h3 : c < 64 := by omega
      go_enter Tryd.func49, Tryd.ntmps49
      go_wp2
      go_ret
      exact ⟨rfl, rfl⟩
    · rw [decide_eq_false (fun h => h2 h.2)]
      have h3 : ¬ c < 64 := by omega
      go_enter Tryd.func49, Tryd.ntmps49
      go_wp2
      go_ret
      exact ⟨rfl, rfl⟩
  · rw [decide_eq_false (fun h => h1 h.1)]
    go_enter Tryd.func49, Tryd.ntmps49
    go_wp2
    go_ret
    exact ⟨rfl, rfl⟩

set_option maxHeartbeats 1000000 in
theorem isInter_any (c : Int) (w : World) : Calls Tryd.prog 70 #[.int .i64 c] w fun e w' => e = .returned (.bool (decide (32 ≤ c ∧ c ≤ 47))) ∧ w' = w := by
  by_cases h1 : 32 ≤ c
  · by_cases h2 : c ≤ 47
    · rw [decide_eq_true (And.intro h1 h2)]
      have h3 : c < 48 := by omega
      go_enter Tryd.func70, Tryd.ntmps70
      go_wp2
      go_ret
      exact ⟨rfl, rfl⟩
    · rw [decide_eq_false (fun h => h2 h.2)]
      have h3 : ¬ c < 48 := by omega
      go_enter Tryd.func70, Tryd.ntmps70
      go_wp2
      go_ret
      exact ⟨rfl, rfl⟩
  · rw [decide_eq_false (fun h => h1 h.1)]
    go_enter Tryd.func70, Tryd.ntmps70
    go_wp2
    go_ret
    exact ⟨rfl, rfl⟩

set_option maxHeartbeats 1000000 in
theorem isArg_any (c : Int) (w : World) : Calls Tryd.prog 101 #[.int .i64 c] w fun e w' => e = .returned (.bool (decide (48 ≤ c ∧ c ≤ 57 ∨ c = 59))) ∧ w' = w := by
  by_cases h3 : c = 59
  · subst h3
    rw [decide_eq_true (.inr rfl)]
    go_enter Tryd.func101, Tryd.ntmps101
    go_wp2
    go_ret
    exact ⟨rfl, rfl⟩
  · have h3b : (c == 59) = false := beq_false_of_ne h3
    by_cases h1 : 48 ≤ c
    · by_cases h2 : c ≤ 57
      · rw [decide_eq_true (.inl (And.intro h1 h2))]
        go_enter Tryd.func101, Tryd.ntmps101
        go_wp2
        go_ret
        exact ⟨rfl, rfl⟩
      · rw [decide_eq_false (fun h => h.elim (fun h => h2 h.2) h3)]
        go_enter Tryd.func101, Tryd.ntmps101
        go_wp2
        go_ret
        exact ⟨rfl, rfl⟩
    · rw [decide_eq_false (fun h => h.elim (fun h => h1 h.1) h3)]
      go_enter Tryd.func101, Tryd.ntmps101
      go_wp2
      go_ret
      exact ⟨rfl, rfl⟩

theorem index_mem (l : List UInt8) (b : UInt8) : 0 ≤ indexByte l b ↔ b ∈ l := by
  induction l with
  | nil => simp [indexByte]
  | cons a l ih =>
    have hge := indexByte_ge l b
    rw [indexByte, List.mem_cons]
    by_cases h : a = b
    · subst h; simp
    · have h' : (a == b) = false := beq_false_of_ne h
      rw [h']
      simp only [Bool.false_eq_true, if_false]
      by_cases h2 : indexByte l b = -1
      · rw [h2] at ih
        rw [h2]
        simp
        exact ⟨fun e => h e.symm, fun e => absurd (ih.2 e) (by decide)⟩
      · have h3 : (indexByte l b == -1) = false := beq_false_of_ne h2
        rw [h3]
        simp only [Bool.false_eq_true, if_false]
        exact ⟨fun _ => .inr (ih.1 (by omega)), fun _ => by omega⟩

set_option maxHeartbeats 1000000 in
theorem ContainsRune_any (s : ByteArray) (r : Int) (w : World) (h0 : 0 ≤ r) (h1 : r < 128) : Calls Tryd.prog 59 #[.string s, .int .i32 r] w fun e w' => e = .returned (.bool (decide (sg r ∈ s.data.toList))) ∧ w' = w := by
  have HI := Hid.mk' (Tryd.strings_IndexRune_ascii s r w h0 h1)
  have hiff := index_mem s.data.toList (sg r)
  change Hid (Calls _ _ _ _ fun e w' => e = .returned (.int .i64 (indexByte s.data.toList (sg r))) ∧ w' = w) at HI
  generalize indexByte s.data.toList (sg r) = y at *
  have hd : decide (sg r ∈ s.data.toList) = decide (0 ≤ y) := by simp only [← hiff]
  rw [hd]
  clear hiff hd
  go_enter Tryd.func59, Tryd.ntmps59
  go_wp2_with fail
  refine HI.out.mono ?_
  rintro e w1 ⟨rfl, rfl⟩
  go_wp2
  go_ret
  exact ⟨rfl, rfl⟩
theorem sg_mem (l : List UInt8) {c : Int} (h0 : 0 ≤ c) (h1 : c < 128) : (sg c ∈ l) ↔ c ∈ l.map fun b => (b.toNat : Int) := by
  have e := sg_nat (c := c) h0 (by omega)
  rw [List.mem_map]
  constructor
  · exact fun h => ⟨_, h, e⟩
  · rintro ⟨b, hb, h⟩
    have : b = sg c := UInt8.toNat_inj.1 (by omega)
    rwa [← this]
theorem begin_mem {c : Int} (h0 : 0 ≤ c) (h1 : c < 128) : (sg c ∈ (⟨#[80, 88, 94, 95]⟩ : ByteArray).data.toList) ↔ c = 80 ∨ c = 88 ∨ c = 94 ∨ c = 95 := by
  rw [sg_mem _ h0 h1]
  show c ∈ [(80 : Int), 88, 94, 95] ↔ _
  simp
end Go.Proofs.YtneiiinheimglaaDoor.B
