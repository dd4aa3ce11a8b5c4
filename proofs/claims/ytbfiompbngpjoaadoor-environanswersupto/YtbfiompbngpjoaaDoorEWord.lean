/-
  Contract of environ.appendWord; condition: at most 50000000000 bytes.
-/
import Derived.Test.YtbfiompbngpjoaaDoorECheck
namespace Go.Proofs.YtbfiompbngpjoaaDoor.E
open Go.RowKit Go.Lib Go.Proofs.YtbfiompbngpjoaaDoor Go.Proofs.YtbfiompbngpjoaaDoor.W Go.Proofs.YtbfiompbngpjoaaDoor.Q Go.Proofs.YtbfiompbngpjoaaDoor.C

/-- so many bytes of the word have been put behind l -/
def WState (w : World) (base : Nat) (l s : List UInt8) (g : Nat) (s0 s8 : Value) (wr : World) : Prop :=
  ∃ k : Nat, k ≤ s.length ∧ s.length - k ≤ g ∧ s8 = .int .i64 (k : Int) ∧ Hid (OwnB wr base s0 (l ++ esc (s.take k))) ∧ Hid (∀ B X, B ≤ base → Below B X w → Below B X wr) ∧ Hid (KeepV w wr) ∧ w.heap.size ≤ wr.heap.size
theorem take_snoc {s : List UInt8} {k : Nat} (h : k < s.length) : s.take (k + 1) = s.take k ++ [s[k]] := by simp
theorem esc_take_len (s : List UInt8) (k : Nat) : (esc (s.take k)).length ≤ 2 * s.length := by
  have h1 := esc_len (s.take k)
  have h2 : (s.take k).length ≤ s.length := by rw [List.length_take]; omega
  omega

set_option maxHeartbeats 4000000 in
set_option maxRecDepth 100000 in
theorem appendWord_any (w : World) (base : Nat) (v : Value) (l s : List UInt8) (hv : OwnB w base v l) (hb : base ≤ w.heap.size) (hn : l.length + 2 * s.length ≤ 50000000000) :
    Calls Tryd.prog 23 #[v, .string (bs s)] w fun e w' => ∃ v', e = .returned v' ∧ OwnB w' base v' (l ++ esc s) ∧ (∀ B X, B ≤ base → Below B X w → Below B X w') ∧ KeepV w w' := by
  have hz := bs_size s
  have HV := Hid.mk' hv
  have HG : Hid (∀ k (h : k < s.length) (h2 : k < (bs s).size), (bs s)[k]'h2 = s[k]'h) := fun _ _ _ => rfl
  clear hv
  generalize bs s = S at *
  go_enter Tryd.func23, Tryd.ntmps23
  go_wp2_with fail
  go_loopg [0, 8] s.length (fun g s0 s8 wr => WState w base l s g s0 s8 wr)
  case atStart => exact ⟨0, Nat.zero_le _, by omega, rfl, by rw [List.take_zero, esc, List.append_nil]; exact HV.out, fun _ _ _ h => h, KeepV.refl _, Nat.le_refl _⟩
  case round =>
    obtain ⟨k, hk, hg, rfl, HO, HB, HK, hsz⟩ := hrel
    clear HV
    have hel := esc_take_len s k
    by_cases hlt : k < s.length
    · have hx := HG.out k hlt (by omega)
      have hlt2 : k < S.size := by omega
      have hts := take_snoc hlt
      clear HG
      by_cases h3 : s[k].toNat ≤ 3
      · have HE : Hid (∀ x : List UInt8, x = (l ++ esc (s.take k) ++ [2]) ++ [s[k]] → x = l ++ esc (s.take (k + 1))) := fun x hx => by
          rw [hx, hts, esc_app, esc_mark h3, esc]
          simp
        have h3' : (s[k].toNat : Int) ≤ 3 := by omega
        have HW2 : Hid (#[.int .u8 2] = (bcells [2]).toArray) := Hid.mk' rfl
        have HW : Hid (#[.int .u8 (s[k].toNat : Int)] = (bcells [s[k]]).toArray) := Hid.mk' rfl
        have hl1 : (l ++ esc (s.take k)).length ≤ 50000000000 := by rw [List.length_append]; omega
        clear hts hel h3
        generalize l ++ esc (s.take k) = L at *
        generalize hy : s[k] = y at *
        generalize hyn : (y.toNat : Int) = yn at *
        go_wp2_with (at_builtin; refine wpList_append_b _ (by rfl) _ _ rfl base _ L [2] rfl HO.out _ HW2.out _ _ rfl rfl (by simp) (by omega) ?c1 ?_)
        case c1 => first | omega | (simp; omega)
        intro v1 l1 w1 e1 ho1 hb1 hk1 hs1
        have hl2 : l1.length ≤ 50000000001 := by rw [e1.out, List.length_append]; simp; omega
        have HO1 := Hid.mk' ho1
        have HB1 : Hid (∀ B X, B ≤ base → Below B X w → Below B X w1) := fun B X h1 h2 => hb1 B X h1 (HB.out B X h1 h2)
        have HK1 : Hid (KeepV w w1) := HK.out.trans hk1
        have hsz1 : w.heap.size ≤ w1.heap.size := by omega
        have HE1 : Hid (∀ x : List UInt8, x = l1 ++ [y] → x = l ++ esc (s.take (k + 1))) := fun x hx => HE.out x (by rw [hx, e1.out])
        clear ho1 hb1 hk1 hs1 HO HB HK HE e1
        go_wp2_with (at_builtin; refine wpList_append_b _ (by rfl) _ _ rfl base v1 l1 [y] rfl HO1.out _ HW.out _ _ rfl rfl (by simp) (by omega) ?c2 ?_)
        case c2 => first | omega | (simp; omega)
        intro v2 l2 w2 e2 ho2 hb2 hk2 hs2
        have HO2 : Hid (OwnB w2 base v2 (l ++ esc (s.take (k + 1)))) := by rw [← HE1.out l2 e2.out]; exact ho2
        have HB2 : Hid (∀ B X, B ≤ base → Below B X w → Below B X w2) := fun B X h1 h2 => hb2 B X h1 (HB1.out B X h1 h2)
        have HK2 : Hid (KeepV w w2) := HK1.out.trans hk2
        have hsz2 : w.heap.size ≤ w2.heap.size := by omega
        clear ho2 hb2 hk2 hs2 HO1 HB1 HK1 HE1 e2
        go_wp2
        go_roundg (s.length - (k + 1))
        case measure => omega
        case rel => exact ⟨k + 1, by omega, Nat.le_refl _, by go_num, HO2, HB2, HK2, hsz2⟩
      · have HE : Hid (∀ x : List UInt8, x = l ++ esc (s.take k) ++ [s[k]] → x = l ++ esc (s.take (k + 1))) := fun x hx => by
          rw [hx, hts, esc_app, esc_plain h3, esc]
          simp
        have h3' : ¬ (s[k].toNat : Int) ≤ 3 := by omega
        have HW : Hid (#[.int .u8 (s[k].toNat : Int)] = (bcells [s[k]]).toArray) := Hid.mk' rfl
        have hl1 : (l ++ esc (s.take k)).length ≤ 50000000000 := by rw [List.length_append]; omega
        clear hts hel h3
        generalize l ++ esc (s.take k) = L at *
        generalize hy : s[k] = y at *
        generalize hyn : (y.toNat : Int) = yn at *
        go_wp2_with (at_builtin; refine wpList_append_b _ (by rfl) _ _ rfl base _ L [y] rfl HO.out _ HW.out _ _ rfl rfl (by simp) (by omega) ?c1 ?_)
        case c1 => first | omega | (simp; omega)
        intro v2 l2 w2 e2 ho2 hb2 hk2 hs2
        have HO2 : Hid (OwnB w2 base v2 (l ++ esc (s.take (k + 1)))) := by rw [← HE.out l2 e2.out]; exact ho2
        have HB2 : Hid (∀ B X, B ≤ base → Below B X w → Below B X w2) := fun B X h1 h2 => hb2 B X h1 (HB.out B X h1 h2)
        have HK2 : Hid (KeepV w w2) := HK.out.trans hk2
        have hsz2 : w.heap.size ≤ w2.heap.size := by omega
        clear ho2 hb2 hk2 hs2 HO HB HK HE e2
        go_wp2
        go_roundg (s.length - (k + 1))
        case measure => omega
        case rel => exact ⟨k + 1, by omega, Nat.le_refl _, by go_num, HO2, HB2, HK2, hsz2⟩
    · obtain rfl : k = s.length := by omega
      have HO2 : Hid (OwnB wr base u0 (l ++ esc s)) := by
        have := HO.out
        rw [List.take_length] at this
        exact this
      clear HO hel
      go_wp2
      go_ret
      exact ⟨_, rfl, HO2.out, HB.out, HK.out⟩
end Go.Proofs.YtbfiompbngpjoaaDoor.E
