/-
  The walk of farkeep.IacPlain: it returns true and leaves what was there; conditions: at most 1048576 bytes, and the variable internal/bytealg.MaxLen holds some int.
-/
import Derived.Test.YtmcoliblkkploaaDoorEsc
namespace Go.Proofs.YtmcoliblkkploaaDoor
open Go.RowKit

theorem plain_to : ∀ (s d : List UInt8), (esc s).foldl RS.take ⟨0, 0, 0, false, [], d, []⟩ = ⟨0, 0, 0, false, [], d ++ s, []⟩
  | [], d => by simp [esc]
  | b :: l, d => by
    rw [esc]
    by_cases hb : b.toNat = 255
    · rw [if_pos hb]
      have e1 : RS.take ⟨0, 0, 0, false, [], d, []⟩ b = ⟨1, 0, 0, false, [], d, []⟩ := by simp [RS.take, RS.takeByte, hb]
      have e2 : RS.take ⟨1, 0, 0, false, [], d, []⟩ b = ⟨0, 0, 0, false, [], d ++ [b], []⟩ := by simp [RS.take, RS.takeCommand, hb]
      rw [List.foldl_cons, List.foldl_cons, e1, e2, plain_to l (d ++ [b])]
      simp
    · rw [if_neg hb]
      have e1 : RS.take ⟨0, 0, 0, false, [], d, []⟩ b = ⟨0, 0, 0, false, [], d ++ [b], []⟩ := by simp [RS.take, RS.takeByte, hb]
      rw [List.foldl_cons, e1, plain_to l (d ++ [b])]
      simp

theorem plain_feed (s : List UInt8) : feed zeroW (esc s) = if s = [] then ⟨0, 0, 0, false, [], [], []⟩ else ⟨0, 0, 0, false, [], [], [⟨1, 0, 0, s⟩]⟩ := by
  have h := plain_to s []
  have e : feedTo zeroW (esc s) = ⟨0, 0, 0, false, [], s, []⟩ := h
  rw [feed, e, RS.flush]
  simp only []
  split <;> simp_all

set_option maxHeartbeats 4000000 in
theorem IacPlain_walk (s : List UInt8) (m : Int) (w : World) (hs : s.length ≤ 1048576) (hm : w.cell? ⟨0, 0, none⟩ = some (.int .i64 m)) :
    Calls Tryd.prog 7 #[.string ⟨s.toArray⟩] w fun e w' => e = .returned (.bool true) ∧ Below w.heap.size w w' := by
  have h0 : 0 < w.heap.size := World.block_lt_of_cell? _ _ hm
  have hE := Escape_any s m w (by omega) hm
  have hel := esc_length s
  have hF := fun W => Feed_ok zeroW (esc s) W rfl (by omega)
  rw [plain_feed] at hF
  have HL : Hid (∀ W : World, W.cell? ⟨0, 0, none⟩ = some (.int .i64 m) → Calls Tryd.prog 20 #[] W fun e w' => e = .returned (.bool true) ∧ Below W.heap.size W w') := fun W hW => lives_any Escape_any W m hW
  by_cases h : s = []
  · subst h
    simp only [if_true, zeroW, Wr.val, RS.wire] at hF
    have HF := Hid.mk' hF
    have HE := Hid.mk' hE
    clear hE hF hel
    go_enter Tryd.func7, Tryd.ntmps7
    go_wp2_with fail
    refine HE.out.mono ?_
    rintro e w1 ⟨rfl, hb1⟩
    go_wp2_with fail
    refine (HF.out _).mono ?_
    rintro e w2 ⟨vt, rfl, ho, hb2⟩
    obtain ⟨a, c, rfl⟩ : ∃ a c, vt = .slice a 0 c := by
      rcases ho.form with ⟨rfl, _⟩ | ⟨g, cap, rfl, _⟩
      · exact ⟨_, _, rfl⟩
      · exact ⟨_, _, rfl⟩
    have HB : Hid (Below w.heap.size w w2) := hb1.trans (hb2.mono hb1.size)
    clear ho hb1 hb2
    have hsz := HB.out.size
    have hM : ∀ o, (w2.alloc o).cell? ⟨0, 0, none⟩ = some (.int .i64 m) := fun o => by
      rw [World.cell?_alloc_past (hn := by omega)]
      exact (HB.out.cell (p := ⟨0, 0, none⟩) h0).trans hm
    have HM := Hid.mk' hM
    clear hM
    go_wp2_with fail
    refine (HL.out _ (HM.out _)).mono ?_
    rintro e w3 ⟨rfl, hb3⟩
    have d3 : ∀ j, w3.cell? ⟨w2.heap.size, j, none⟩ = (#[.int .i64 0, .int .i64 0, .int .i64 0, .string ⟨#[]⟩, .bool false] : Array Value)[j]? := fun j => (hb3.cell (p := ⟨w2.heap.size, j, none⟩) (by simp)).trans (World.cell?_alloc_at _ _ _ _ rfl)
    have HB3 := Hid.mk' hb3
    clear hb3
    go_wp2
    go_ret
    exact ⟨rfl, (HB.out.alloc (by omega) _).trans (HB3.out.mono (by simp; omega))⟩
  · rw [if_neg h] at hF
    simp only [zeroW, Wr.val, RS.wire] at hF
    have HF := Hid.mk' hF
    have HE := Hid.mk' hE
    have hne : (s == []) = false := by simpa using h
    clear hE hF hel
    go_enter Tryd.func7, Tryd.ntmps7
    go_wp2_with fail
    refine HE.out.mono ?_
    rintro e w1 ⟨rfl, hb1⟩
    go_wp2_with fail
    refine (HF.out _).mono ?_
    rintro e w2 ⟨vt, rfl, ho, hb2⟩
    obtain ⟨g, c, rfl, hg⟩ : ∃ g c, vt = .slice (some ⟨g, 0, none⟩) 1 c ∧ g < w2.heap.size := by
      rcases ho.form with ⟨_, e⟩ | ⟨g, cap, rfl, _, hg, _⟩
      · simp at e
      · exact ⟨_, _, rfl, hg⟩
    have hto := ho.tok 0 (by simp)
    simp only [List.getElem_cons_zero, Nat.zero_mul, Nat.zero_add] at hto
    obtain ⟨t0, t1, t2, t3⟩ := hto
    have HB : Hid (Below w.heap.size w w2) := hb1.trans (hb2.mono hb1.size)
    clear ho hb1 hb2
    have hsz := HB.out.size
    have hM : ∀ o, (w2.alloc o).cell? ⟨0, 0, none⟩ = some (.int .i64 m) := fun o => by
      rw [World.cell?_alloc_past (hn := by omega)]
      exact (HB.out.cell (p := ⟨0, 0, none⟩) h0).trans hm
    have HM := Hid.mk' hM
    clear hM
    go_wp2_with fail
    refine (HL.out _ (HM.out _)).mono ?_
    rintro e w3 ⟨rfl, hb3⟩
    have d3 : ∀ j, w3.cell? ⟨w2.heap.size, j, none⟩ = (#[.int .i64 0, .int .i64 0, .int .i64 0, .string ⟨#[]⟩, .bool false] : Array Value)[j]? := fun j => (hb3.cell (p := ⟨w2.heap.size, j, none⟩) (by simp)).trans (World.cell?_alloc_at _ _ _ _ rfl)
    have far : ∀ j, w3.cell? ⟨g, j, none⟩ = w2.cell? ⟨g, j, none⟩ := fun j => (hb3.cell (p := ⟨g, j, none⟩) (by simp; omega)).trans (World.cell?_alloc_past _ _ _ hg)
    have s0 := (far 0).trans t0
    have s1 := (far 1).trans t1
    have s2 := (far 2).trans t2
    have s3 := (far 3).trans t3
    have HB3 := Hid.mk' hb3
    clear hb3 far t0 t1 t2 t3
    go_wp2
    go_ret
    exact ⟨rfl, (HB.out.alloc (by omega) _).trans (HB3.out.mono (by simp; omega))⟩
end Go.Proofs.YtmcoliblkkploaaDoor
