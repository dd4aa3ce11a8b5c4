/-
  Contract of farref.WireOf: the wire of the bytes of a token that isn't whole; conditions: at most 8000000 bytes, and the variable internal/bytealg.MaxLen holds some int.
-/
import Derived.Test.YtmcoliblkkploaaDoorWof
namespace Go.Proofs.YtmcoliblkkploaaDoor
open Go.RowKit

theorem str_some (a : UInt8) (L : List UInt8) : (⟨(a :: L).toArray⟩ : ByteArray).toList.isEmpty = false := by
  rw [Lib.toList_data]
  rfl
theorem list_get (L : List UInt8) (k : Nat) (_h : k < L.length) (h2 : k < (⟨L.toArray⟩ : ByteArray).size) : (⟨L.toArray⟩ : ByteArray)[k] = L[k] := by
  show L.toArray[k] = L[k]
  simp

theorem WireOf_any (L : List UInt8) (x : Wr) (m : Int) (w : World) (hl : L.length ≤ 8000000) (h : token L = .inl x) (hm : w.cell? ⟨0, 0, none⟩ = some (.int .i64 m)) :
    Calls Tryd.prog 15 #[.string ⟨L.toArray⟩] w fun e w' => e = .returned x.val ∧ Below w.heap.size w w' := by
  match L, hl, h with
  | [], _, h =>
    simp [token] at h
    subst h
    exact WireOf_nil w
  | [c], _, h =>
    simp only [token] at h
    by_cases hc : c.toNat ≠ 255
    · rw [if_pos hc] at h; cases h
    · rw [if_neg hc] at h
      cases h
      exact WireOf_one _ w rfl (str_some _ _)
  | [c, c2], _, h =>
    simp only [token] at h
    by_cases hc : c.toNat ≠ 255
    · rw [if_pos hc] at h; cases h
    rw [if_neg hc] at h
    by_cases h1 : c2.toNat = 255
    · rw [if_pos h1] at h; cases h
    rw [if_neg h1] at h
    by_cases h2 : c2.toNat < 240
    · rw [if_pos h2] at h; cases h
    rw [if_neg h2] at h
    by_cases h3 : c2.toNat < 250
    · rw [if_pos h3] at h; cases h
    rw [if_neg h3] at h
    by_cases h4 : c2.toNat = 250
    · rw [if_pos h4] at h
      cases h
      exact WireOf_sub _ c2 w rfl (str_some _ _) rfl h4
    · rw [if_neg h4] at h
      cases h
      exact WireOf_neg _ c2 w rfl (str_some _ _) rfl h4
  | c :: c2 :: o :: M, hl, h =>
    simp only [token] at h
    by_cases hc : c.toNat ≠ 255
    · rw [if_pos hc] at h; cases h
    rw [if_neg hc] at h
    by_cases h1 : c2.toNat = 255
    · rw [if_pos h1] at h; cases h
    rw [if_neg h1] at h
    by_cases h2 : c2.toNat < 240
    · rw [if_pos h2] at h; cases h
    rw [if_neg h2] at h
    by_cases h3 : c2.toNat < 250
    · rw [if_pos h3] at h; cases h
    rw [if_neg h3] at h
    by_cases h4 : 250 < c2.toNat
    · rw [if_pos h4] at h; cases h
    rw [if_neg h4] at h
    cases hw : words o M [] 3 with
    | inr p => rw [hw] at h; cases h
    | inl p =>
      rw [hw] at h
      obtain ⟨b, d'⟩ := p
      simp only [Sum.inl.injEq] at h
      subst h
      obtain ⟨ht, hd, hne⟩ := words_un o b d' M [] 3 hw
      rw [List.nil_append] at hd
      have hsz : (⟨(c :: c2 :: o :: M).toArray⟩ : ByteArray).size = M.length + 3 := by simp [ByteArray.size]
      have hszM : (⟨M.toArray⟩ : ByteArray).size = M.length := by simp [ByteArray.size]
      simp only [List.length_cons] at hl
      refine WireOf_loop ⟨(c :: c2 :: o :: M).toArray⟩ ⟨M.toArray⟩ M o b d' m w (by omega) (by omega) ?_ ?_ hszM (Hid.mk' (list_get M)) ?_ rfl (str_some _ _) (by omega) ht hd hne hm
      · exact list_get (c :: c2 :: o :: M) 2 (by simp) _
      · exact rest_list (c :: c2 :: o :: M) 3
      · show _ = _
        apply ByteArray.ext
        rw [ByteArray.data_extract]
        apply Array.toList_inj.1
        simp [List.dropLast_eq_take]
end Go.Proofs.YtmcoliblkkploaaDoor
