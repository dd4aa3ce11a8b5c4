/-
  Contract of environ.Write; condition: at most 2^44 variables.
-/
import Derived.Test.YtbfiompbngpjoaaDoorEVar
namespace Go.Proofs.YtbfiompbngpjoaaDoor.E
open Go.RowKit Go.Lib Go.Proofs.YtbfiompbngpjoaaDoor Go.Proofs.YtbfiompbngpjoaaDoor.W Go.Proofs.YtbfiompbngpjoaaDoor.Q Go.Proofs.YtbfiompbngpjoaaDoor.C

/-- so many variables are written -/
def TState (w : World) (l : List Vr) (g : Nat) (s5 s15 : Value) (wr : World) : Prop :=
  ∃ k : Nat, k ≤ l.length ∧ l.length - k ≤ g ∧ s15 = .int .i64 (k : Int) ∧ Hid (OwnB wr w.heap.size s5 (txt (l.take k))) ∧ Hid (Below w.heap.size w wr)
theorem take_snocV {s : List Vr} {k : Nat} (h : k < s.length) : s.take (k + 1) = s.take k ++ [s[k]] := by simp
theorem txt_take {l : List Vr} (h : ∀ x ∈ l, long x = false) (k : Nat) : (txt (l.take k)).length ≤ 802 * l.length := by
  have h1 := txt_len (l.take k) (fun x hx => h x (List.mem_of_mem_take hx))
  have h2 : (l.take k).length ≤ l.length := by rw [List.length_take]; omega
  omega

set_option maxHeartbeats 4000000 in
set_option maxRecDepth 100000 in
theorem Write_any (w : World) (v : Value) (l : List Vr) (hv : RdV w v l) (hn : l.length ≤ 17592186044416) :
    Calls Tryd.prog 5 #[v] w fun e w' => e = .returned (.tuple #[.string (bs (writeT l).1), .int .i64 (writeT l).2]) ∧ Below w.heap.size w w' := by
  have HC := Hid.mk' (check_any w v l hv hn)
  rcases (by rcases chk_range l with h | h | h; exact .inl h; exact .inr ⟨2, h, by decide⟩; exact .inr ⟨4, h, by decide⟩ : chk l = 0 ∨ ∃ r : Int, chk l = r ∧ (r == 0) = false) with h0 | ⟨r, h0, hr0⟩
  · rw [writeT_ok h0]
    rw [h0] at HC
    obtain ⟨h20, hlg, _⟩ := chk_zero h0
    have HLG := Hid.mk' hlg
    obtain ⟨a, c, rfl, hc, hr⟩ := hv
    have HT : Hid (∀ T, T = bs (txt l) → (⟨(txt (l.take l.length)).toArray⟩ : ByteArray) = T) := fun T h => by rw [h, List.take_length]; rfl
    have HT2 := Hid.mk' (HT.out _ rfl)
    clear h0 hlg hn HT
    dsimp only
    generalize bs (txt l) = T at *
    go_enter Tryd.func5, Tryd.ntmps5
    go_wp2_with fail
    refine HC.out.mono ?_
    rintro e w1 ⟨rfl, hb1⟩
    have HB1 := Hid.mk' hb1
    clear hb1 HC
    go_wp2_with fail
    go_loopg [5, 15] l.length (fun g s5 s15 wr => TState w l g s5 s15 wr)
    case atStart => exact ⟨0, Nat.zero_le _, by omega, rfl, OwnB.nil _ _, HB1⟩
    case round =>
      obtain ⟨k, hk, hg, rfl, HO, HB⟩ := hrel
      have htl := txt_take HLG.out k
      by_cases hlt : k < l.length
      · rcases hr with h0 | ⟨b, o, rfl, t, hb⟩
        · subst h0; simp at hlt
        obtain ⟨t0, t1, t2, t3⟩ := (t k hlt).below HB.out hb
        obtain ⟨g1, g2⟩ := long_no (HLG.out l[k] (List.getElem_mem hlt))
        have HB2 := fun cs => Hid.mk' (HB.out.alloc HB.out.size (.cells cs 30))
        have HO2 := fun cs => Hid.mk' (HO.out.below ((Below.refl wr.heap.size wr).alloc (Nat.le_refl _) (.cells cs 30)))
        have hts : txt (l.take (k + 1)) = txt (l.take k) ++ l[k].text := by rw [take_snocV hlt, txt_app]; simp [txt]
        have HV := Hid.mk' (fun cs => appendVar_any _ w.heap.size u5 (txt (l.take k)) l[k] (HO2 cs).out (HB2 cs).out.size (by omega) (by omega) (by omega))
        have HE : Hid (∀ W v', OwnB W w.heap.size v' (txt (l.take k) ++ l[k].text) → OwnB W w.heap.size v' (txt (l.take (k + 1)))) := fun W v' h => by rw [hts]; exact h
        clear HLG hts t HO HO2 htl
        generalize txt (l.take k) ++ l[k].text = T at *
        generalize bs l[k].name = x0 at *
        generalize bs l[k].value = x1 at *
        generalize l[k].user = x2 at *
        generalize l[k].set = x3 at *
        go_wp2_with fail
        refine (HV.out _).mono ?_
        rintro e w2 ⟨v2, rfl, ho2, hg2⟩
        have HO3 := Hid.mk' (HE.out _ _ ho2)
        have HB3 := Hid.mk' (hg2 _ _ (Nat.le_refl _) (HB2 _).out)
        clear ho2 hg2 HV HE HB2
        go_wp2
        go_roundg (l.length - (k + 1))
        case measure => omega
        case rel => exact ⟨k + 1, by omega, by omega, by go_num, HO3, HB3⟩
      · obtain rfl : k = l.length := by omega
        have hst := run_str HO.out
        rw [HT2.out] at hst
        clear HO HLG htl HT2
        go_wp2
        go_ret2
        exact ⟨rfl, HB.out⟩
  · have h0' : chk l ≠ 0 := by intro e; rw [e] at h0; subst h0; cases hr0
    rw [writeT_no h0', h0]
    rw [h0] at HC
    clear h0 h0' hv
    go_enter Tryd.func5, Tryd.ntmps5
    go_wp2_with fail
    refine HC.out.mono ?_
    rintro e w1 ⟨rfl, hb1⟩
    have HB1 := Hid.mk' hb1
    clear hb1 HC
    go_wp2
    go_ret2
    exact ⟨rfl, HB1.out⟩
end Go.Proofs.YtbfiompbngpjoaaDoor.E
