/-
  The walk of farkeep.EnvironOwn: it returns true; conditions: at most 2^47 bytes of variables, a text whose length an int tells.
-/
import Derived.Test.YtbfiompbngpjoaaEAns
import Derived.Test.YtbfiompbngpjoaaELives
namespace Go.Proofs.Ytbfiompbngpjoaa.E
open Go.RowKit Go.Lib Go.Proofs.Ytbfiompbngpjoaa Go.Proofs.Ytbfiompbngpjoaa.W Go.Proofs.Ytbfiompbngpjoaa.Q Go.Proofs.Ytbfiompbngpjoaa.C

theorem setCell_block {w : World} {b : Nat} {arr : Array Value} {t : TypeId} {fz : Nat × Nat} (h : w.heap[b]? = some (.cells arr t fz)) (k : Nat) (v : Value) : (w.setCell ⟨b, k, none⟩ v).heap[b]? = some (.cells (arr.setIfInBounds k v) t fz) := by
  rw [setCell_eq_setRow w b k arr t fz v h]
  exact setRow_heap w b arr _ t fz h
theorem free_frozen {w : World} {g j : Nat} {cur : Array Value} {t : TypeId} {fz : Nat × Nat} (hg : w.heap[g]? = some (.cells cur t fz)) (hf : Free cur fz) (hj : j < cur.size) : w.frozen? ⟨g, j, none⟩ = false := by
  obtain ⟨lo, hi⟩ := fz
  rcases hf with h | h
  · simp only [Prod.mk.injEq] at h
    obtain ⟨rfl, rfl⟩ := h
    simp [World.frozen?, hg]
  · simp only at h
    simp only [World.frozen?, hg, Bool.and_eq_false_iff, decide_eq_false_iff_not]
    left
    omega
/-- a block of variables that may be written -/
def Room (w : World) (g n : Nat) : Prop := ∃ cur fz, w.heap[g]? = some (.cells cur 30 fz) ∧ Free cur fz ∧ cur.size = n
theorem Room.cell {w : World} {g n : Nat} (h : Room w g n) {j : Nat} (hj : j < n) : (∃ x, w.cell? ⟨g, j, none⟩ = some x) ∧ w.frozen? ⟨g, j, none⟩ = false := by
  obtain ⟨cur, fz, hg, hf, hs⟩ := h
  exact ⟨⟨cur[j]'(by omega), by rw [cell_of_row w g j cur _ fz hg]; simp [show j < cur.size by omega]⟩, free_frozen hg hf (by omega)⟩
theorem Room.set {w : World} {g n : Nat} (h : Room w g n) (j : Nat) (v : Value) : Room (w.setCell ⟨g, j, none⟩ v) g n := by
  obtain ⟨cur, fz, hg, hf, hs⟩ := h
  refine ⟨_, fz, setCell_block hg j v, ?_, by simpa using hs⟩
  rcases hf with h | h
  · exact .inl h
  · exact .inr (by simpa using h)
theorem Room.sets : ∀ (cs : List Value) (o : Nat) (w : World) (g n : Nat), Room w g n → Room (w.setCells g o cs) g n
  | [], _, _, _, _, h => h
  | v :: r, o, w, g, n, h => by
    rw [World.setCells]
    exact Room.sets r _ _ _ _ (h.set o v)
theorem Room.kept {w w' : World} {g n : Nat} (h : Room w g n) (hk : w'.heap[g]? = w.heap[g]?) : Room w' g n := by
  obtain ⟨cur, fz, hg, hf, hs⟩ := h
  exact ⟨cur, fz, hk.trans hg, hf, hs⟩
theorem OwnV.room {w : World} {base g cap : Nat} {l : List Vr} (h : OwnV w base (some ⟨g, 0, none⟩) cap l) : base ≤ g ∧ g < w.heap.size ∧ l.length ≤ cap ∧ cap ≤ maxLen ∧ Room w g (cap * 4) := by
  rcases h.2 with ⟨e, _⟩ | ⟨g', c, cur, fz, e, hb, hg, hf, hn, hm, hs, _⟩
  · simp at e
  · simp only [Value.slice.injEq, Option.some.injEq, Addr.mk.injEq, and_true] at e
    obtain ⟨⟨rfl, _⟩, _, rfl⟩ := e
    exact ⟨hb, (Array.getElem?_eq_some_iff.1 hg).1, hn, hm, cur, fz, hg, hf, hs⟩
theorem OwnV.shape {w : World} {base cap : Nat} {ad : Option Addr} {l : List Vr} (h : OwnV w base ad cap l) : (ad = none ∧ cap = 0 ∧ l = []) ∨ ∃ g, ad = some ⟨g, 0, none⟩ := by
  rcases h.2 with ⟨e, e2⟩ | ⟨g', c, cur, fz, e, _⟩
  · simp only [Value.slice.injEq] at e
    exact .inl ⟨e.1, e.2.2, List.length_eq_zero_iff.1 e2⟩
  · simp only [Value.slice.injEq] at e
    exact .inr ⟨g', e.1⟩
/-- a variable is stored in a block that may be written -/
theorem wpList_store_room {ops : Array Oper} {rest : List Oper} {op : Oper} {a : Act} {w : World} {Q : Exit → Act → World → Prop} (g n j : Nat) (cs : List Value) (hR : Room w g n) (hj : j + 4 ≤ n) (hl : cs.length = 4) (h1 : ∀ v ∈ cs, v.oneCell' = true)
    (hgd : op.guard = none) (x y : Operand) (ho : op.op = .store 30 x y) (hx : a.eval x = .pointer (some ⟨g, j, none⟩)) (hy : a.eval y = .agg cs.toArray)
    (h : ∀ w', Room w' g n → (∀ k, k ≠ g → w'.heap[k]? = w.heap[k]?) → w'.heap.size = w.heap.size → (∀ B W, B ≤ g → Below B W w → Below B W w') → wpList Try.prog ops Q rest (a.put op.dst undef) w') : wpList Try.prog ops Q (op :: rest) a w :=
  wpList_store_mid hgd 30 x y ho g j cs.toArray hx hy (fun i hi => by
    rw [List.size_toArray, hl] at hi
    obtain ⟨⟨v, hv⟩, hf⟩ := hR.cell (j := j + i) (by omega)
    exact ⟨by rw [hv]; rfl, hf⟩) (by rw [sizeVar]; simp [hl]) (all_oneCell_toArray h1) (h _ (Room.sets _ _ _ _ _ hR) (fun k hk => setCells_other _ _ _ _ _ hk) (setCells_size _ _ _ _) (fun B W hB hW => setCells_below _ _ _ _ _ _ hW hB))

def OwState (w w4 : World) (g cap : Nat) (gk : Nat) (s30 : Value) (wr : World) : Prop :=
  ∃ j : Nat, j ≤ cap ∧ cap - j ≤ gk ∧ s30 = .int .i64 (j : Int) ∧ Hid (∀ k, k ≠ g → wr.heap[k]? = w4.heap[k]?) ∧ Hid (Below w.heap.size w wr) ∧ Hid (Room wr g (cap * 4)) ∧ wr.heap.size = w4.heap.size
theorem own_addr {w : World} {base : Nat} {ad : Option Addr} {cap : Nat} {l : List Vr} (h : OwnV w base ad cap l) {k : Nat} (hk : (Value.slice ad l.length cap).ownBlock = some k) : ad = some ⟨k, 0, none⟩ := by
  rcases OwnV.shape h with ⟨rfl, _, _⟩ | ⟨g, rfl⟩
  · simp [Value.ownBlock] at hk
  · simp [Value.ownBlock] at hk
    rw [hk]

set_option maxHeartbeats 16000000 in
set_option maxRecDepth 100000 in
theorem EnvironOwn_any (w : World) (v : Value) (l : List Vr) (s : List UInt8) (hv : RdV w v l) (hn : l.length * 40 ≤ 140737488355328) (hz : s.length ≤ 9223372036854775807) :
    Calls Try.prog 6 #[v, .string (bs s)] w fun e w' => e = .returned (.bool true) ∧ Below w.heap.size w w' := by
  have H1 := Hid.mk' (Clone_any w v l hv hn)
  have H2 : Hid (∀ W, Below w.heap.size w W → Calls Try.prog 12 #[v, .string (bs s)] W fun e w' => e = .returned (.tuple #[.string (bs (answerT l s).1), .int .i64 (answerT l s).2]) ∧ Below W.heap.size W w') := fun W hW => Answer_any W v l s (hv.below hW (Nat.le_refl _)) (by omega) hz
  have H3 : Hid (∀ W, _) := fun W => Read_any s W hz
  have hL20 := readT_small s
  have HE1 : Hid (∀ W ad cap, Below w.heap.size w W → OwnV W w.heap.size ad cap l → Calls Try.prog 9 #[v, .slice ad l.length cap] W fun e w' => e = .returned (.bool true) ∧ ∃ q, w' = W.drewN q) := fun W ad cap h1 h2 => by
    have := Equal_any W v _ l l (hv.below h1 (Nat.le_refl _)) h2.rd (by omega)
    rw [eqs_self] at this
    exact this
  generalize readT s = R at *
  obtain ⟨L, r⟩ := R
  dsimp only at H3 hL20
  have HE2 : Hid (∀ W ad cap ad' cap', OwnV W w.heap.size ad cap L → OwnV W w.heap.size ad' cap' L → Calls Try.prog 9 #[.slice ad L.length cap, .slice ad' L.length cap'] W fun e w' => e = .returned (.bool true) ∧ ∃ q, w' = W.drewN q) := fun W ad cap ad' cap' h1 h2 => by
    have := Equal_any W _ _ L L h1.rd h2.rd (by omega)
    rw [eqs_self] at this
    exact this
  have HC : Hid (∀ W ad cap, OwnV W w.heap.size ad cap L → Calls Try.prog 11 #[.slice ad L.length cap] W fun e w' => ∃ ad cap, e = .returned (.slice ad L.length cap) ∧ OwnV w' W.heap.size ad cap L ∧ Below W.heap.size W w') := fun W ad cap h => Clone_any W _ L h.rd (by omega)
  have HL := Hid.mk' lives_any
  have HLL : Hid (∃ N : Nat, L.length = N) := ⟨_, rfl⟩
  obtain ⟨a0, c0, rfl, hc0, hr0⟩ := hv
  clear hr0
  generalize bs (answerT l s).1 = A1 at *
  generalize (answerT l s).2 = A2 at *
  generalize bs s = S at *
  go_enter Try.func6, Try.ntmps6
  go_wp2_with fail
  refine H1.out.mono ?_
  rintro e w1 ⟨adB, capB, rfl, ho1, hb1⟩
  have HB1 := Hid.mk' hb1
  have hs1 := HB1.out.size
  clear hb1 H1
  go_wp2_with fail
  refine (H2.out w1 HB1.out).mono ?_
  rintro e w2 ⟨rfl, hb2⟩
  have HB2 := Hid.mk' (HB1.out.trans (hb2.mono hs1))
  have HOB2 := Hid.mk' (OwnV.below ho1 hb2)
  have hs2 := HB2.out.size
  clear hb2 H2 ho1 HB1
  go_wp2_with fail
  refine (H3.out w2).mono ?_
  rintro e w3 ⟨ad, cap, rfl, ho3, hb3⟩
  have HB3 := Hid.mk' (HB2.out.trans (hb3.mono hs2))
  have HOB3 := Hid.mk' (OwnV.below HOB2.out hb3)
  have hs3 := HB3.out.size
  have HC3 := Hid.mk' (HC.out w3 ad cap (OwnR.low ho3 hs2))
  have hOBlt : ∀ k, adB = some ⟨k, 0, none⟩ → k < w2.heap.size := fun k e => by
    have := HOB2.out
    unfold OwnV at this
    exact (this.lt k (by rw [e]; rfl)).2
  have HOBlt := Hid.mk' hOBlt
  clear HB2 HOB2 HC hOBlt
  go_wp2_with fail
  refine HC3.out.mono ?_
  rintro e w4 ⟨adW, capW, rfl, ho4, hb4⟩
  have HB4 := Hid.mk' (HB3.out.trans (hb4.mono hs3))
  have HOB4 := Hid.mk' (OwnV.below HOB3.out hb4)
  have HO4 := Hid.mk' (OwnV.below ho3 hb4)
  have hs4 := HB4.out.size
  have hs34 := hb4.size
  have hs23 := hb3.size
  have HOW := Hid.mk' ho4
  have hlt3 : ∀ g, ad = some ⟨g, 0, none⟩ → w2.heap.size ≤ g ∧ g < w3.heap.size := fun g e => by
    have := ho3
    unfold OwnV at this
    exact this.lt g (by rw [e]; rfl)
  clear hb4 hb3 ho4 HB3 HOB3 HC3
  rcases HO4.out.shape with ⟨e1, e2, e3⟩ | ⟨g, e1⟩
  · subst e1 e2
    have HOW4 := Hid.mk' (OwnR.low HOW.out hs3)
    clear HO4 HOW HLL hlt3 HOBlt
    clear e3
    go_wp2_with fail
    go_loopg [30] 0 (fun gk s30 wr => s30 = .int .i64 0 ∧ wr = w4)
    case atStart => exact ⟨rfl, rfl⟩
    case round =>
      obtain ⟨rfl, rfl⟩ := hrel
      have HBr := HB4
      have hsr := hs4
      have HOBr := HOB4
      have HOWr := HOW4
      go_wp2_with fail
      refine (H3.out wr).mono ?_
      rintro e w6 ⟨ad6, cap6, rfl, ho6, hb6⟩
      have HB6 := Hid.mk' (HBr.out.trans (hb6.mono hsr))
      have HOB6 := Hid.mk' (OwnV.below HOBr.out hb6)
      have HOW6 := Hid.mk' (OwnV.below HOWr.out hb6)
      have HOR6 := Hid.mk' (OwnR.low ho6 hsr)
      have hs6 := HB6.out.size
      clear hb6 ho6 H3 HBr HOBr HOWr
      go_wp2_with fail
      refine (HL.out w6).mono ?_
      rintro e w7 ⟨rfl, hb7⟩
      have HB7 := Hid.mk' (HB6.out.trans (hb7.mono hs6))
      have HEB := Hid.mk' (HE1.out w7 adB capB HB7.out (OwnV.below HOB6.out hb7))
      have HOW7 := Hid.mk' (OwnV.below HOW6.out hb7)
      have HOR7 := Hid.mk' (OwnV.below HOR6.out hb7)
      have hs7 := HB7.out.size
      clear hb7 HB6 HOB6 HOW6 HOR6 HE1
      go_wp2_with fail
      refine HEB.out.mono ?_
      rintro e w8 ⟨rfl, q, hw8⟩
      have HB8 : Hid (Below w.heap.size w w8) := by rw [hw8]; exact below_drewN HB7.out q
      have HEW := Hid.mk' (HE2.out w8 ad6 cap6 adW capW (by rw [hw8]; exact HOR7.out) (by rw [hw8]; exact HOW7.out))
      clear hw8 HB7 HOW7 HOR7 HE2 HEB
      go_wp2_with fail
      refine HEW.out.mono ?_
      rintro e w9 ⟨rfl, q, hw9⟩
      have HB9 : Hid (Below w.heap.size w w9) := by rw [hw9]; exact below_drewN HB8.out q
      clear hw9 HB8 HEW
      go_wp2
      go_ret
      exact ⟨rfl, HB9.out⟩
  · subst e1
    obtain ⟨hg1, hg2⟩ := hlt3 g rfl
    obtain ⟨_, _, hLc, hcm, hroom⟩ := HO4.out.room
    have HR4 := Hid.mk' hroom
    have hcm' : cap ≤ 9223372036854775807 := by simpa only [maxLen] using hcm
    have HOW4 := Hid.mk' (OwnR.low HOW.out hs3)
    have hWne : ∀ k, adW = some ⟨k, 0, none⟩ → k ≠ g := fun k e => by
      have := HOW.out
      unfold OwnV at this
      have := (this.lt k (by rw [e]; rfl)).1
      omega
    have HKW : Hid (∀ W, (∀ k, k ≠ g → W.heap[k]? = w4.heap[k]?) → OwnV W w.heap.size adW capW L) := fun W h => OwnR.keptAt HOW4.out (fun k hk => h k (hWne k (own_addr HOW4.out hk)))
    have HKB : Hid (∀ W, (∀ k, k ≠ g → W.heap[k]? = w4.heap[k]?) → OwnV W w.heap.size adB capB l) := fun W h => OwnR.keptAt HOB4.out (fun k hk => h k (by have := HOBlt.out k (own_addr HOB4.out hk); omega))
    have hgw : w.heap.size ≤ g := by omega
    clear HO4 HOW HOW4 HOB4 HLL hroom hWne HOBlt
    have hsp : ∀ (a b : ByteArray) (c d : Bool), ∀ v ∈ [Value.string a, .string b, .bool c, .bool d], v.oneCell' = true := ones4
    have HSP := Hid.mk' hsp
    clear hsp hlt3 hcm
    go_wp2_with fail
    go_loopg [30] cap (fun gk s30 wr => OwState w w4 g cap gk s30 wr)
    case atStart => exact ⟨0, Nat.zero_le _, by omega, rfl, fun _ _ => rfl, HB4, HR4, rfl⟩
    case round =>
      obtain ⟨j, hj, hgj, rfl, HK, HBr, HRr, hsz⟩ := hrel
      by_cases hjl : j < cap
      · have h4 : j * 4 + 4 ≤ cap * 4 := by omega
        clear HKW HKB HE1 HE2 HL H3
        go_wp2_with (refine wpList_store_room g (cap * 4) (j * 4) [.string ⟨#[115, 112, 111, 105, 108, 116]⟩, .string ⟨#[]⟩, .bool false, .bool false] HRr.out h4 rfl (HSP.out _ _ _ _) rfl _ _ rfl rfl rfl ?_)
        intro w5 hr5 hk5 hz5 hb5
        have HK5 : Hid (∀ k, k ≠ g → w5.heap[k]? = w4.heap[k]?) := fun k hk => (hk5 k hk).trans (HK.out k hk)
        have HB5 := Hid.mk' (hb5 _ _ hgw HBr.out)
        have HR5 := Hid.mk' hr5
        have hsz5 : w5.heap.size = w4.heap.size := by omega
        clear hr5 hk5 hz5 hb5 HK HBr HRr hsz
        go_wp2
        go_roundg (cap - (j + 1))
        case measure => omega
        case rel => exact ⟨j + 1, by omega, by omega, by go_num, HK5, HB5, HR5, hsz5⟩
      · obtain rfl : j = cap := by omega
        have hsr := HBr.out.size
        have HOBr := Hid.mk' (HKB.out wr HK.out)
        have HOWr := Hid.mk' (HKW.out wr HK.out)
        clear HKW HKB HK HRr hsz HR4
        go_wp2_with fail
        refine (H3.out wr).mono ?_
        rintro e w6 ⟨ad6, cap6, rfl, ho6, hb6⟩
        have HB6 := Hid.mk' (HBr.out.trans (hb6.mono hsr))
        have HOB6 := Hid.mk' (OwnV.below HOBr.out hb6)
        have HOW6 := Hid.mk' (OwnV.below HOWr.out hb6)
        have HOR6 := Hid.mk' (OwnR.low ho6 hsr)
        have hs6 := HB6.out.size
        clear hb6 ho6 H3 HBr HOBr HOWr
        go_wp2_with fail
        refine (HL.out w6).mono ?_
        rintro e w7 ⟨rfl, hb7⟩
        have HB7 := Hid.mk' (HB6.out.trans (hb7.mono hs6))
        have HEB := Hid.mk' (HE1.out w7 adB capB HB7.out (OwnV.below HOB6.out hb7))
        have HOW7 := Hid.mk' (OwnV.below HOW6.out hb7)
        have HOR7 := Hid.mk' (OwnV.below HOR6.out hb7)
        have hs7 := HB7.out.size
        clear hb7 HB6 HOB6 HOW6 HOR6 HE1
        go_wp2_with fail
        refine HEB.out.mono ?_
        rintro e w8 ⟨rfl, q, hw8⟩
        have HB8 : Hid (Below w.heap.size w w8) := by rw [hw8]; exact below_drewN HB7.out q
        have HEW := Hid.mk' (HE2.out w8 ad6 cap6 adW capW (by rw [hw8]; exact HOR7.out) (by rw [hw8]; exact HOW7.out))
        clear hw8 HB7 HOW7 HOR7 HE2 HEB
        go_wp2_with fail
        refine HEW.out.mono ?_
        rintro e w9 ⟨rfl, q, hw9⟩
        have HB9 : Hid (Below w.heap.size w w9) := by rw [hw9]; exact below_drewN HB8.out q
        clear hw9 HB8 HEW
        go_wp2
        go_ret
        exact ⟨rfl, HB9.out⟩
end Go.Proofs.Ytbfiompbngpjoaa.E
