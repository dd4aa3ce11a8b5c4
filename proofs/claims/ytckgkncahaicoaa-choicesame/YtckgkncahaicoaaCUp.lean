/-
  Contract of farkeep.upper; condition: no text longer than an int tells.
-/
import Derived.Test.YtckgkncahaicoaaCStr
import Derived.Lib.ConvBytes
namespace Go.Proofs.Ytckgkncahaicoaa.C
open Go.RowKit Go.Lib Go.Proofs.Ytckgkncahaicoaa Go.Proofs.Ytckgkncahaicoaa.W Go.Proofs.Ytckgkncahaicoaa.Q

theorem below_bytes (w : World) (e : TypeId) (s : ByteArray) : Below w.heap.size w (bytesWorld w e s) :=
  ⟨rfl, rfl, rfl, by rw [bytesWorld_size]; omega, fun k hk => bytesWorld_at_old w e s k hk⟩

/-- the first k letters made capital -/
def mixed (l : List UInt8) (k : Nat) : List UInt8 := (l.take k).map cap ++ l.drop k
theorem mixed_len (l : List UInt8) (k : Nat) : (mixed l k).length = l.length := by simp [mixed]; omega
theorem mixed_zero (l : List UInt8) : mixed l 0 = l := by simp [mixed]
theorem mixed_all (l : List UInt8) : mixed l l.length = l.map cap := by simp [mixed]
theorem mixed_get (l : List UInt8) (k : Nat) (h : k < l.length) : (mixed l k)[k]? = some l[k] := by
  unfold mixed
  rw [List.getElem?_append_right (by simp; omega)]
  simp [h, Nat.min_eq_left (Nat.le_of_lt h)]
theorem mixed_succ (l : List UInt8) (k : Nat) (h : k < l.length) : mixed l (k + 1) = (mixed l k).set k (cap l[k]) := by
  unfold mixed
  rw [List.set_append_right _ _ (by simp; omega), List.take_succ_eq_append_getElem h, List.map_append, List.append_assoc]
  congr 1
  have e : k - ((l.take k).map cap).length = 0 := by simp; omega
  rw [e]
  conv => rhs; rw [List.drop_eq_getElem_cons h]
  rfl
theorem mixed_same (l : List UInt8) (k : Nat) (h : k < l.length) (hc : cap l[k] = l[k]) : mixed l (k + 1) = mixed l k := by
  rw [mixed_succ l k h, hc]
  apply List.ext_getElem?
  intro j
  by_cases e : j = k
  · subst e
    rw [List.getElem?_set_self (by rw [mixed_len]; exact h), mixed_get l j h]
  · rw [List.getElem?_set_ne (fun h => e h.symm)]

def UState (w : World) (l : List UInt8) (C : Nat) (s10 : Value) (wr : World) : Prop :=
  ∃ (k : Nat) (cur : List Value), k ≤ l.length ∧ s10 = .int .i64 (k : Int) ∧ Hid (wr.heap[w.heap.size]? = some (.cells cur.toArray 5 (C, C + 1))) ∧ cur.length = C ∧ Hid (cur.take l.length = bcells (mixed l k)) ∧ Hid (Below w.heap.size w wr)

set_option maxHeartbeats 4000000 in
set_option maxRecDepth 100000 in
theorem upper_any (l : List UInt8) (w : World) (hz : l.length ≤ 9223372036854775807) :
    Calls Try.prog 14 #[.string (bs l)] w fun e w' => e = .returned (.string (bs (l.map cap))) ∧ Below w.heap.size w w' := by
  have hsz := bs_size l
  have hcv := Lib.run_convert_string_bytes (P := Try.prog) w 9 46 5 (bs l) Try.underlying9 Try.underlying46 Try.underlying5
  rw [hsz] at hcv
  have hge := grownCap_ge w l.length 0 5
  have hgm := grownCap_le_maxLen w l.length 0 5 (by unfold maxLen; omega)
  have hcs : (bytesCells w 5 (bs l)).size = grownCap w l.length 0 5 := by
    unfold bytesCells
    rw [hsz, Array.size_append, Array.size_map, Array.size_replicate]
    have : (bs l).data.size = l.length := hsz
    omega
  have HS : Hid (UState w l (grownCap w l.length 0 5) (.int .i64 0) (bytesWorld w 5 (bs l))) := by
    refine ⟨0, (bytesCells w 5 (bs l)).toList, Nat.zero_le _, rfl, ?_, by simpa using hcs, ?_, below_bytes w _ _⟩
    · show _ = _
      have := bytesWorld_at_new w 5 (bs l)
      rw [hcs] at this
      simpa using this
    · show _ = _
      rw [mixed_zero]
      unfold bytesCells bcells
      rw [Array.toList_append, List.take_left' (by simp [bs])]
      simp [bs]
  have HSTR : Hid (∀ W cur, W.heap[w.heap.size]? = some (.cells cur 5 (grownCap w l.length 0 5, grownCap w l.length 0 5 + 1)) → cur.size = grownCap w l.length 0 5 → cur.toList.take l.length = bcells (l.map cap) →
      (convert 46 9 (.slice (some ⟨w.heap.size, 0, none⟩) l.length (grownCap w l.length 0 5))).run Try.prog W = .ok (.string (bs (l.map cap))) W) := fun W cur h1 h2 h3 => by
    have ho : OwnB W w.heap.size (.slice (some ⟨w.heap.size, 0, none⟩) l.length (grownCap w l.length 0 5)) (l.map cap) := by
      unfold OwnB
      refine ⟨by simp [bcells], .inr ⟨w.heap.size, _, cur, _, by simp, Nat.le_refl _, h1, .inr (by rw [h2]; exact Nat.le_refl _), by simpa using hge, hgm, by simpa using h2, by simpa using h3⟩⟩
    exact run_str ho
  have hC1 : grownCap w l.length 0 5 ≤ 9223372036854775807 := by simpa [maxLen] using hgm
  generalize bytesWorld w 5 (bs l) = w1 at *
  generalize grownCap w l.length 0 5 = C at *
  clear hgm hcs
  generalize bs (l.map cap) = U at *
  generalize bs l = S at *
  go_enter Try.func14, Try.ntmps14
  go_wp2_with fail
  clear hcv
  go_loopw [10] (fun s10 wr => UState w l C s10 wr) (fun i _ => l.length - (RowKit.intOf i).toNat)
  case atStart => exact HS.out
  case round =>
    obtain ⟨k, cur, hk, rfl, HK, hcl, HT, HB⟩ := hrel
    clear HS
    have HBs := HB.out.size
    by_cases hlt : k < l.length
    · have hget : cur[k]? = some (.int .u8 (l[k].toNat : Int)) := by
        have h1 : (cur.take l.length)[k]? = cur[k]? := by rw [List.getElem?_take, if_pos hlt]
        rw [← h1, HT.out, bcells, List.getElem?_map, mixed_get l k hlt]
        rfl
      have c1 : wr.cell? ⟨w.heap.size, k, none⟩ = some (.int .u8 (l[k].toNat : Int)) := by
        rw [cell_of_row wr w.heap.size k _ _ _ HK.out]
        simpa using hget
      have c2 : wr.frozen? ⟨w.heap.size, k, none⟩ = false := by
        simp only [World.frozen?, HK.out, Bool.and_eq_false_iff, decide_eq_false_iff_not]
        left
        omega
      have hb := l[k].toNat_lt
      by_cases hc : 97 ≤ l[k].toNat ∧ l[k].toNat ≤ 122
      · have q1 : (97 : Int) ≤ (l[k].toNat : Int) := by omega
        have q2 : (l[k].toNat : Int) ≤ 122 := by omega
        have hv : (l[k].toNat : Int) - 32 = ((cap l[k]).toNat : Int) := by rw [cap_all, if_pos hc]; omega
        have HR : Hid (UState w l C (.int .i64 ((k + 1 : Nat) : Int)) (wr.setCell ⟨w.heap.size, k, none⟩ (.int .u8 ((l[k].toNat : Int) - 32)))) := by
          refine ⟨k + 1, cur.set k (.int .u8 ((l[k].toNat : Int) - 32)), by omega, rfl, ?_, by simpa using hcl, ?_, HB.out.setCell (by simp) _⟩
          · show _ = _
            rw [setCell_eq_setRow wr w.heap.size k _ _ _ _ HK.out, setRow_heap wr w.heap.size _ _ _ _ HK.out]
            simp
          · show _ = _
            rw [List.take_set, HT.out, mixed_succ l k hlt, hv]
            unfold bcells
            rw [List.map_set]
        clear hget hv hc HT HK hb
        generalize (l[k].toNat : Int) = x at *
        go_wp2
        go_roundw
        case rel =>
          obtain ⟨k2, cur2, a1, a2, a3⟩ := HR.out
          exact ⟨k2, cur2, a1, by rw [← a2]; go_num, a3⟩
        case measure => simp [RowKit.intOf]; omega
      · have hcc : cap l[k] = l[k] := by unfold cap; rw [if_neg hc]
        have HR : Hid (UState w l C (.int .i64 ((k + 1 : Nat) : Int)) wr) :=
          ⟨k + 1, cur, by omega, rfl, HK, hcl, by show _ = _; rw [mixed_same l k hlt hcc]; exact HT.out, HB⟩
        have hq : ¬ ((97 : Int) ≤ (l[k].toNat : Int)) ∨ ((97 : Int) ≤ (l[k].toNat : Int) ∧ ¬ (l[k].toNat : Int) ≤ 122) := by omega
        have x0 : (0 : Int) ≤ (l[k].toNat : Int) := by omega
        have x1 : (l[k].toNat : Int) < 256 := by omega
        clear hget hcc hc HT HK hb
        generalize (l[k].toNat : Int) = x at *
        rcases hq with q1 | ⟨q1, q2⟩
        all_goals (
          go_wp2
          go_roundw
          case rel =>
            obtain ⟨k2, cur2, a1, a2, a3⟩ := HR.out
            exact ⟨k2, cur2, a1, by rw [← a2]; go_num, a3⟩
          case measure => simp [RowKit.intOf]; omega)
    · obtain rfl : k = l.length := by omega
      have hstr := HSTR.out wr cur.toArray HK.out (by simpa using hcl) (by rw [← mixed_all]; simpa using HT.out)
      clear HSTR HT HK
      go_wp2
      go_ret
      exact ⟨rfl, HB.out⟩
end Go.Proofs.Ytckgkncahaicoaa.C
