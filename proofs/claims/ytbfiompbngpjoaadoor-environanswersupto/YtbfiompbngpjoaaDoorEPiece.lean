/-
  Contract of farref.piece; condition: a text of at most 1000000000 bytes.
-/
import Derived.Test.YtbfiompbngpjoaaDoorERWord
namespace Go.Proofs.YtbfiompbngpjoaaDoor.E
open Go.RowKit Go.Lib Go.Proofs.YtbfiompbngpjoaaDoor Go.Proofs.YtbfiompbngpjoaaDoor.W Go.Proofs.YtbfiompbngpjoaaDoor.Q Go.Proofs.YtbfiompbngpjoaaDoor.C

/-- what piece answers -/
def pieceT (s : List UInt8) : ByteArray × ByteArray × Bool :=
  match word s with
  | none => (⟨#[]⟩, ⟨#[]⟩, false)
  | some (x, r) => (bs x, bs r, true)
theorem pieceT_none {s : List UInt8} (h : word s = none) : pieceT s = (⟨#[]⟩, ⟨#[]⟩, false) := by unfold pieceT; rw [h]
theorem pieceT_some {s x r : List UInt8} (h : word s = some (x, r)) : pieceT s = (bs x, bs r, true) := by unfold pieceT; rw [h]
def KState (w : World) (s : List UInt8) (g : Nat) (s0 s5 : Value) (wr : World) : Prop :=
  ∃ (r : List UInt8) (X : ByteArray) (q : Nat), s0 = .string (bs r) ∧ s5 = .string X ∧ r.length ≤ g ∧ X.size + r.length ≤ s.length ∧ Hid (∃ x, X = bs x ∧ word s = (word r).map fun p => (x ++ p.1, p.2)) ∧ wr = w.drewN q

set_option maxHeartbeats 8000000 in
set_option maxRecDepth 100000 in
theorem piece_any (s : List UInt8) (w : World) (hz : s.length ≤ 1000000000) :
    Calls Tryd.prog 19 #[.string (bs s)] w fun e w' => e = .returned (.tuple #[.string (pieceT s).1, .string (pieceT s).2.1, .bool (pieceT s).2.2]) ∧ ∃ q, w' = w.drewN q := by
  have HN : Hid (word s = none → pieceT s = (⟨#[]⟩, ⟨#[]⟩, false)) := fun h => pieceT_none h
  have HS : Hid (∀ x r, word s = some (x, r) → pieceT s = (bs x, bs r, true)) := fun x r h => pieceT_some h
  have HST : Hid (KState w s s.length (.string (bs s)) (.string ⟨#[]⟩) w) := ⟨s, ⟨#[]⟩, 0, rfl, rfl, Nat.le_refl _, by show 0 + s.length ≤ _; omega, ⟨[], rfl, by simp⟩, rfl⟩
  generalize pieceT s = R at *
  obtain ⟨r1, r2, r3⟩ := R
  simp only at HN HS ⊢
  generalize bs s = S at *
  go_enter Tryd.func19, Tryd.ntmps19
  go_wp2_with fail
  go_loopg [0, 5] s.length (fun g s0 s5 wr => KState w s g s0 s5 wr)
  case atStart => exact HST.out
  case round =>
    obtain ⟨r, X, q, rfl, rfl, hg, hXz, HX, rfl⟩ := hrel
    clear HST
    obtain ⟨x, hx, hw⟩ := HX.out
    have HE : Hid (stops r = true → (r1, r2, r3) = (X, bs r, true)) := fun h => by rw [HS.out (x ++ []) r (by rw [hw, word_stop h]; rfl), List.append_nil, hx]
    have HNO : Hid (word r = none → (r1, r2, r3) = (⟨#[]⟩, ⟨#[]⟩, false)) := fun h => HN.out (by rw [hw, h]; rfl)
    have HX2 : Hid (∀ c t2, (word r = (word t2).map fun p => (c :: p.1, p.2)) → ∃ y, X ++ (⟨#[c]⟩ : ByteArray) = bs y ∧ word s = (word t2).map fun p => (y ++ p.1, p.2)) := fun c t2 h => ⟨x ++ [c], by rw [hx, show (⟨#[c]⟩ : ByteArray) = bs [c] from rfl, bs_app], by rw [hw, h, Option.map_map]; congr 1; funext p; simp⟩
    clear HX HN HS hx hw
    match r, hg, hXz, HE, HNO, HX2 with
    | [], _, _, HE, _, _ =>
      have er := HE.out rfl
      simp only [Prod.mk.injEq] at er
      obtain ⟨rfl, e2, rfl⟩ := er
      have hE : (bs []).toList.isEmpty = true := by rw [bs_list]; rfl
      generalize bs [] = T at *
      subst e2
      clear HE
      go_wp2
      go_ret3
      exact ⟨rfl, q, rfl⟩
    | b :: t, hg, hXz, HE, HNO, HX2 =>
      have hE : (bs (b :: t)).toList.isEmpty = false := by rw [bs_list]; rfl
      have hsz : (bs (b :: t)).size = t.length + 1 := by rw [bs_size]; rfl
      have hg0 : ∀ h : 0 < (bs (b :: t)).size, (bs (b :: t))[0]'h = b := fun _ => rfl
      have hxd : (bs (b :: t)).extract 1 (t.length + 1) = bs t := by rw [← hsz, bs_drop]; rfl
      have hx1 : (bs (b :: t)).extract 0 1 = ⟨#[b]⟩ := bs_take (b :: t) 1
      rw [List.length_cons] at hg hXz
      by_cases h3 : b.toNat ≤ 3
      · by_cases h2 : b.toNat = 2
        · obtain rfl := two_of h2
          match t, hg, hXz, HNO, HX2, hsz, hxd, hE, hg0, hx1, HE with
          | [], hg, hXz, HNO, _, hsz, hxd, hE, hg0, _, _ =>
            have er := HNO.out word_cut
            simp only [Prod.mk.injEq] at er
            obtain ⟨rfl, rfl, rfl⟩ := er
            have hE2 : (bs []).toList.isEmpty = true := by rw [bs_list]; rfl
            simp only [List.length_nil] at hsz hxd
            generalize bs [2] = D at *
            generalize bs [] = T at *
            have hg0 := hg0 (by omega)
            clear HNO
            go_wp2
            go_ret3
            exact ⟨rfl, q, rfl⟩
          | c :: t, hg, hXz, HNO, HX2, hsz, hxd, hE, hg0, _, _ =>
            have hE2 : (bs (c :: t)).toList.isEmpty = false := by rw [bs_list]; rfl
            have hsz2 : (bs (c :: t)).size = t.length + 1 := by rw [bs_size]; rfl
            have hg02 : ∀ h : 0 < (bs (c :: t)).size, (bs (c :: t))[0]'h = c := fun _ => rfl
            have hxd2 : (bs (c :: t)).extract 1 (t.length + 1) = bs t := by rw [← hsz2, bs_drop]; rfl
            have hx12 : (bs (c :: t)).extract 0 1 = ⟨#[c]⟩ := bs_take (c :: t) 1
            rw [List.length_cons] at hg hXz hsz hxd
            by_cases hc : c.toNat ≤ 3
            · obtain ⟨y, hy, hw⟩ := HX2.out c t (word_quote hc t)
              have HX3 : Hid (∀ Y, Y = X ++ (⟨#[c]⟩ : ByteArray) → ∃ y, Y = bs y ∧ word s = (word t).map fun p => (y ++ p.1, p.2)) := fun Y h => ⟨y, h.trans hy, hw⟩
              have hYz : (X ++ (⟨#[c]⟩ : ByteArray)).size = X.size + 1 := by rw [ByteArray.size_append]; rfl
              have hc3 : ¬ (3 : Int) < (c.toNat : Int) := by omega
              have hcat1 : X.size + 1 ≤ 9223372036854775807 := by omega
              have hc1 : (⟨#[c]⟩ : ByteArray).size = 1 := rfl
              clear HX2 HNO hy hw hc
              generalize bs (2 :: c :: t) = D at *
              generalize bs (c :: t) = D2 at *
              generalize (⟨#[c]⟩ : ByteArray) = C1 at *
              have hg0 := hg0 (by omega)
              have hg02 := hg02 (by omega)
              go_wp2_with fail
              go_quiet (fail)
              go_wp2
              go_roundg t.length
              case measure => omega
              case rel => exact ⟨t, X ++ C1, q + nq, rfl, rfl, Nat.le_refl _, by omega, HX3.out _ rfl, by rw [World.drewN_drewN]⟩
            · have er := HNO.out (word_none hc t)
              simp only [Prod.mk.injEq] at er
              obtain ⟨rfl, rfl, rfl⟩ := er
              have hc3 : (3 : Int) < (c.toNat : Int) := by omega
              clear HX2 HNO hc
              generalize bs (2 :: c :: t) = D at *
              generalize bs (c :: t) = D2 at *
              have hg0 := hg0 (by omega)
              have hg02 := hg02 (by omega)
              go_wp2
              go_ret3
              exact ⟨rfl, q, rfl⟩
        · have er := HE.out (decide_eq_true ⟨h3, h2⟩)
          simp only [Prod.mk.injEq] at er
          obtain ⟨rfl, e2, rfl⟩ := er
          have hcase : b = 0 ∨ b = 1 ∨ b = 3 := by
            rcases (by omega : b.toNat = 0 ∨ b.toNat = 1 ∨ b.toNat = 3) with h | h | h
            · exact .inl (UInt8.toNat_inj.1 h)
            · exact .inr (.inl (UInt8.toNat_inj.1 h))
            · exact .inr (.inr (UInt8.toNat_inj.1 h))
          clear HX2 HNO HE h3 h2
          generalize bs (b :: t) = D at *
          subst e2
          have hg0 := hg0 (by omega)
          rcases hcase with rfl | rfl | rfl
          all_goals (
            go_wp2
            go_ret3
            exact ⟨rfl, q, rfl⟩)
      · obtain ⟨y, hy, hw⟩ := HX2.out b t (word_plain h3 t)
        have HX3 : Hid (∀ Y, Y = X ++ (⟨#[b]⟩ : ByteArray) → ∃ y, Y = bs y ∧ word s = (word t).map fun p => (y ++ p.1, p.2)) := fun Y h => ⟨y, h.trans hy, hw⟩
        have hYz : (X ++ (⟨#[b]⟩ : ByteArray)).size = X.size + 1 := by rw [ByteArray.size_append]; rfl
        have n0 : ¬ (b.toNat : Int) = 0 := by omega
        have n1 : ¬ (b.toNat : Int) = 1 := by omega
        have n2 : ¬ (b.toNat : Int) = 2 := by omega
        have n3 : ¬ (b.toNat : Int) = 3 := by omega
        have p0 : ((b.toNat : Int) != 0) = true := by rw [bne_iff_ne]; omega
        have p1 : ((b.toNat : Int) != 1) = true := by rw [bne_iff_ne]; omega
        have p2 : ((b.toNat : Int) == 2) = false := by rw [beq_eq_false_iff_ne]; omega
        have p3 : ((b.toNat : Int) != 3) = true := by rw [bne_iff_ne]; omega
        have m0 : ¬ b.toNat = 0 := by omega
        have m1 : ¬ b.toNat = 1 := by omega
        have m2 : ¬ b.toNat = 2 := by omega
        have m3 : ¬ b.toNat = 3 := by omega
        have hcat1 : X.size + 1 ≤ 9223372036854775807 := by omega
        have hc1 : (⟨#[b]⟩ : ByteArray).size = 1 := rfl
        clear HX2 HNO HE hy hw h3
        generalize bs (b :: t) = D at *
        generalize (⟨#[b]⟩ : ByteArray) = C1 at *
        have hg0 := hg0 (by omega)
        go_wp2_with fail
        go_quiet (fail)
        go_wp2
        go_roundg t.length
        case measure => omega
        case rel => exact ⟨t, X ++ C1, q + nq, rfl, rfl, Nat.le_refl _, by omega, HX3.out _ rfl, by rw [World.drewN_drewN]⟩
end Go.Proofs.YtbfiompbngpjoaaDoor.E
