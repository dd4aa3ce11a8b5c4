/-
  Contracts of iac.rowLen and iac.joinRow over a row of tokens in memory that is only read; conditions: at most 100000000 tokens, with at most 100000000 bytes together.
-/
import Derived.Test.YtmcoliblkkploaaDoorEq
import Derived.Lib.AppendStr
namespace Go.Proofs.YtmcoliblkkploaaDoor
open Go.RowKit

/-- the tokens l lie in block b from the cell off on -/
def Tread (w : World) (b off : Nat) (l : List Tk) : Prop :=
  ∀ k (hk : k < l.length), w.cell? ⟨b, off + k * 4, none⟩ = some (.int .i64 l[k].kind) ∧ w.cell? ⟨b, off + k * 4 + 1, none⟩ = some (.int .i64 l[k].cmd) ∧ w.cell? ⟨b, off + k * 4 + 2, none⟩ = some (.int .i64 l[k].opt) ∧ w.cell? ⟨b, off + k * 4 + 3, none⟩ = some (.string ⟨l[k].data.toArray⟩)

theorem Tread.below {w w' : World} {B b off : Nat} {l : List Tk} (h : Tread w b off l) (hb : Below B w w') (hlt : b < B) : Tread w' b off l := fun k hk => by
  obtain ⟨h0, h1, h2, h3⟩ := h k hk
  exact ⟨(hb.cell (p := ⟨b, _, none⟩) hlt).trans h0, (hb.cell (p := ⟨b, _, none⟩) hlt).trans h1, (hb.cell (p := ⟨b, _, none⟩) hlt).trans h2, (hb.cell (p := ⟨b, _, none⟩) hlt).trans h3⟩

theorem Tread.drop {w : World} {b off : Nat} {l : List Tk} (h : Tread w b off l) (n : Nat) : Tread w b (off + n * 4) (l.drop n) := fun k hk => by
  have hk' : n + k < l.length := by simp at hk; omega
  have := h (n + k) hk'
  simp only [List.getElem_drop]
  rw [show off + n * 4 + k * 4 = off + (n + k) * 4 by omega]
  exact this

theorem Tread.take {w : World} {b off : Nat} {l : List Tk} (h : Tread w b off l) (n : Nat) : Tread w b off (l.take n) := fun k hk => by
  have hk' : k < l.length := by simp at hk; omega
  have := h k hk'
  simpa only [List.getElem_take] using this

theorem OwnR.tread {w : World} {base g n cap : Nat} {l : List Tk} (h : OwnR w base 34 4 (.slice (some ⟨g, 0, none⟩) n cap) l.length (tsCells l)) : Tread w g 0 l := fun k hk => by
  simpa using h.tok k hk

def rowLen : List Tk → Nat
  | [] => 0
  | t :: l => if t.kind = 1 then rowLen l + 1 else 0
theorem rowLen_le (l : List Tk) : rowLen l ≤ l.length := by
  induction l with
  | nil => simp [rowLen]
  | cons t l ih => rw [rowLen]; split <;> simp; omega
theorem rowLen_all : ∀ (l : List Tk) (k : Nat), (∀ j (h : j < l.length), j < k → l[j].kind = 1) → k ≤ l.length → (∀ h : k < l.length, l[k].kind ≠ 1) → rowLen l = k
  | [], k, _, h, _ => by simp at h; simp [rowLen, h]
  | t :: l, 0, _, _, h => by
    have := h (by simp)
    simp only [List.getElem_cons_zero] at this
    rw [rowLen, if_neg this]
  | t :: l, k + 1, ha, h, hn => by
    have h0 := ha 0 (by simp) (by omega)
    simp only [List.getElem_cons_zero] at h0
    rw [rowLen, if_pos h0, rowLen_all l k (fun j hj hk => by have := ha (j + 1) (by simpa using hj) (by omega); simpa using this) (by simpa using h) (fun hk => by have := hn (by simpa using hk); simpa using this)]

set_option maxHeartbeats 2000000 in
theorem rowLen_any (w : World) (b off cap : Nat) (l : List Tk) (h : Tread w b off l) (hn : l.length ≤ 100000000) :
    Calls Tryd.prog 36 #[.slice (some ⟨b, off, none⟩) l.length cap] w fun e w' => e = .returned (.int .i64 (rowLen l)) ∧ w = w' := by
  have HR := Hid.mk' (rowLen_all l)
  have HT := Hid.mk' h
  clear h
  go_enter Tryd.func36, Tryd.ntmps36
  go_wp2
  go_loop [3] (fun i => ∃ k : Nat, k ≤ l.length ∧ i = .int .i64 k ∧ Hid (∀ j (h : j < l.length), j < k → l[j].kind = 1)) (fun i => l.length - (intOf i).toNat)
  case atStart => exact ⟨0, Nat.zero_le _, rfl, fun j _ hj => absurd hj (Nat.not_lt_zero _)⟩
  case round =>
    obtain ⟨k, hk, rfl, HA⟩ := hrel
    by_cases hlt : k < l.length
    · obtain ⟨t0, _, _, _⟩ := HT.out k hlt
      by_cases hkd : l[k].kind = 1
      · have hb : (l[k].kind == 1) = true := by rw [hkd]; rfl
        have HK := Hid.mk' hkd
        clear hkd
        generalize hx : l[k].kind = x at t0 hb
        have HX := Hid.mk' hx
        clear hx
        go_wp2
        go_round
        case rel =>
          refine ⟨k + 1, by omega, by go_num, fun j hj hjk => ?_⟩
          by_cases e : j = k
          · subst e; exact HK.out
          · exact HA.out j hj (by omega)
        case measure => simp [intOf]; omega
      · have hb : (l[k].kind == 1) = false := beq_eq_false_iff_ne.2 hkd
        have HK := Hid.mk' hkd
        clear hkd
        generalize hx : l[k].kind = x at t0 hb
        have HX := Hid.mk' hx
        clear hx
        go_wp2
        go_ret
        refine ⟨?_, rfl⟩
        rw [HR.out k HA.out hk fun _ => HK.out]
        rfl
    · obtain rfl : k = l.length := by omega
      clear hk hlt
      go_wp2
      go_ret
      refine ⟨?_, rfl⟩
      rw [HR.out _ HA.out (Nat.le_refl _) fun h => absurd h (Nat.lt_irrefl _)]
      rfl
end Go.Proofs.YtmcoliblkkploaaDoor
