/-
  Contracts of parse.isParser, parse.Check, (*reader).read and parse.Feed; conditions: texts of at most 2^40 bytes, at most 2^38 runes.
-/
import Derived.Test.YtneiiinheimglaaDoorBCheck
namespace Go.Proofs.YtneiiinheimglaaDoor.B
open Go.RowKit Go.Lib Go.Proofs.YtneiiinheimglaaDoor Go.Proofs.YtneiiinheimglaaDoor.W Go.Proofs.YtneiiinheimglaaDoor.Q Go.Proofs.YtneiiinheimglaaDoor.C Go.Proofs.YtneiiinheimglaaDoor.Z

set_option maxHeartbeats 8000000 in
set_option maxRecDepth 100000 in
theorem isParser_any (st mk : Int) (im ar tx : List UInt8) (w : World) (hl : im.length ≤ 1099511627776 ∧ ar.length ≤ 1099511627776 ∧ tx.length ≤ 1099511627776) : Calls Tryd.prog 14 #[.agg #[.int .i64 st, .int .i64 mk, .string (bs im), .string (bs ar), .string (bs tx)]] w fun e w' => e = .returned (.bool (okP st mk im ar tx)) ∧ Below w.heap.size w w' := by
  have H1 := Hid.mk' (fun W => hasItsMark_any st mk im ar tx W)
  have H2 := Hid.mk' (fun W => hasItsInter_any st mk im ar tx W hl.1)
  have H3 := Hid.mk' (fun W => hasItsArgs_any st mk im ar tx W hl.2.1)
  have H4 := Hid.mk' (fun W => hasItsText_any st mk im ar tx W hl.2.2)
  unfold okP
  generalize okMark st mk = r1 at *
  generalize okInter st im = r2 at *
  generalize okArgs st ar = r3 at *
  generalize okText st tx = r4 at *
  generalize bs im = S1 at *
  generalize bs ar = S2 at *
  generalize bs tx = S3 at *
  have HB : Hid (∀ W, Below (w.heap.size + 1) (w.alloc (.cells #[.int .i64 st, .int .i64 mk, .string S1, .string S2, .string S3] 23)) W → (W.cell? ⟨w.heap.size, 0, none⟩ = some (.int .i64 st) ∧ W.cell? ⟨w.heap.size, 1, none⟩ = some (.int .i64 mk) ∧ W.cell? ⟨w.heap.size, 2, none⟩ = some (.string S1) ∧ W.cell? ⟨w.heap.size, 3, none⟩ = some (.string S2) ∧ W.cell? ⟨w.heap.size, 4, none⟩ = some (.string S3)) ∧ Below w.heap.size w W ∧ w.heap.size + 1 ≤ W.heap.size) := fun W hW => by
    have bx := (Box.new w 23 [.int .i64 st, .int .i64 mk, .string S1, .string S2, .string S3]).below hW (by omega)
    refine ⟨⟨bx.cell (j := 0) rfl, bx.cell (j := 1) rfl, bx.cell (j := 2) rfl, bx.cell (j := 3) rfl, bx.cell (j := 4) rfl⟩, ((Below.refl _ _).alloc (Nat.le_refl _) _).trans (Below.mono hW (by omega)), by have := bx.lt; omega⟩
  have HF := Hid.mk' (show Below w.heap.size w (w.alloc (.cells #[.int .i64 st, .int .i64 mk, .string S1, .string S2, .string S3] 23)) from (Below.refl _ _).alloc (Nat.le_refl _) _)
  by_cases g1 : 0 ≤ st
  · by_cases g2 : st ≤ 10
    · rw [decide_eq_true (And.intro g1 g2), Bool.true_and]
      cases r1 with
      | false =>
        rw [Bool.false_and, Bool.false_and, Bool.false_and]
        go_enter Tryd.func14, Tryd.ntmps14
        go_wp2_with fail
        refine (H1.out _).mono ?_
        rintro e x1 ⟨rfl, hb⟩
        have B1 := Hid.mk' (show Below (w.heap.size + 1) (w.alloc (.cells #[.int .i64 st, .int .i64 mk, .string S1, .string S2, .string S3] 23)) x1 from Below.mono hb (by simp))
        obtain ⟨⟨a0, a1, a2, a3, a4⟩, _, _⟩ := HB.out _ B1.out
        clear hb
        go_wp2
        go_ret
        exact ⟨rfl, (HB.out _ B1.out).2.1⟩
      | true =>
        rw [Bool.true_and]
        cases r2 with
        | false =>
          rw [Bool.false_and, Bool.false_and]
          go_enter Tryd.func14, Tryd.ntmps14
          go_wp2_with fail
          refine (H1.out _).mono ?_
          rintro e x1 ⟨rfl, hb⟩
          have B1 := Hid.mk' (show Below (w.heap.size + 1) (w.alloc (.cells #[.int .i64 st, .int .i64 mk, .string S1, .string S2, .string S3] 23)) x1 from Below.mono hb (by simp))
          obtain ⟨⟨a0, a1, a2, a3, a4⟩, _, _⟩ := HB.out _ B1.out
          clear hb
          go_wp2_with fail
          refine (H2.out _).mono ?_
          rintro e x2 ⟨rfl, hb⟩
          have B2 := Hid.mk' (B1.out.trans (Below.mono hb (HB.out _ B1.out).2.2))
          clear a0 a1 a2 a3 a4
          obtain ⟨⟨a0, a1, a2, a3, a4⟩, _, _⟩ := HB.out _ B2.out
          clear hb
          go_wp2
          go_ret
          exact ⟨rfl, (HB.out _ B2.out).2.1⟩
        | true =>
          rw [Bool.true_and]
          cases r3 with
          | false =>
            rw [Bool.false_and]
            go_enter Tryd.func14, Tryd.ntmps14
            go_wp2_with fail
            refine (H1.out _).mono ?_
            rintro e x1 ⟨rfl, hb⟩
            have B1 := Hid.mk' (show Below (w.heap.size + 1) (w.alloc (.cells #[.int .i64 st, .int .i64 mk, .string S1, .string S2, .string S3] 23)) x1 from Below.mono hb (by simp))
            obtain ⟨⟨a0, a1, a2, a3, a4⟩, _, _⟩ := HB.out _ B1.out
            clear hb
            go_wp2_with fail
            refine (H2.out _).mono ?_
            rintro e x2 ⟨rfl, hb⟩
            have B2 := Hid.mk' (B1.out.trans (Below.mono hb (HB.out _ B1.out).2.2))
            clear a0 a1 a2 a3 a4
            obtain ⟨⟨a0, a1, a2, a3, a4⟩, _, _⟩ := HB.out _ B2.out
            clear hb
            go_wp2_with fail
            refine (H3.out _).mono ?_
            rintro e x3 ⟨rfl, hb⟩
            have B3 := Hid.mk' (B2.out.trans (Below.mono hb (HB.out _ B2.out).2.2))
            clear a0 a1 a2 a3 a4
            obtain ⟨⟨a0, a1, a2, a3, a4⟩, _, _⟩ := HB.out _ B3.out
            clear hb
            go_wp2
            go_ret
            exact ⟨rfl, (HB.out _ B3.out).2.1⟩
          | true =>
            rw [Bool.true_and]
            go_enter Tryd.func14, Tryd.ntmps14
            go_wp2_with fail
            refine (H1.out _).mono ?_
            rintro e x1 ⟨rfl, hb⟩
            have B1 := Hid.mk' (show Below (w.heap.size + 1) (w.alloc (.cells #[.int .i64 st, .int .i64 mk, .string S1, .string S2, .string S3] 23)) x1 from Below.mono hb (by simp))
            obtain ⟨⟨a0, a1, a2, a3, a4⟩, _, _⟩ := HB.out _ B1.out
            clear hb
            go_wp2_with fail
            refine (H2.out _).mono ?_
            rintro e x2 ⟨rfl, hb⟩
            have B2 := Hid.mk' (B1.out.trans (Below.mono hb (HB.out _ B1.out).2.2))
            clear a0 a1 a2 a3 a4
            obtain ⟨⟨a0, a1, a2, a3, a4⟩, _, _⟩ := HB.out _ B2.out
            clear hb
            go_wp2_with fail
            refine (H3.out _).mono ?_
            rintro e x3 ⟨rfl, hb⟩
            have B3 := Hid.mk' (B2.out.trans (Below.mono hb (HB.out _ B2.out).2.2))
            clear a0 a1 a2 a3 a4
            obtain ⟨⟨a0, a1, a2, a3, a4⟩, _, _⟩ := HB.out _ B3.out
            clear hb
            go_wp2_with fail
            refine (H4.out _).mono ?_
            rintro e x4 ⟨rfl, hb⟩
            have B4 := Hid.mk' (B3.out.trans (Below.mono hb (HB.out _ B3.out).2.2))
            clear a0 a1 a2 a3 a4
            obtain ⟨⟨a0, a1, a2, a3, a4⟩, _, _⟩ := HB.out _ B4.out
            clear hb
            go_wp2
            go_ret
            exact ⟨rfl, (HB.out _ B4.out).2.1⟩
    · rw [decide_eq_false (fun h => g2 h.2), Bool.false_and, Bool.false_and, Bool.false_and, Bool.false_and]
      go_enter Tryd.func14, Tryd.ntmps14
      go_wp2
      go_ret
      exact ⟨rfl, HF.out⟩
  · rw [decide_eq_false (fun h => g1 h.1), Bool.false_and, Bool.false_and, Bool.false_and, Bool.false_and]
    go_enter Tryd.func14, Tryd.ntmps14
    go_wp2
    go_ret
    exact ⟨rfl, HF.out⟩

set_option maxHeartbeats 4000000 in
set_option maxRecDepth 100000 in
theorem Check_any (st mk : Int) (im ar tx : List UInt8) (w : World) (hl : im.length ≤ 1099511627776 ∧ ar.length ≤ 1099511627776 ∧ tx.length ≤ 1099511627776) : Calls Tryd.prog 7 #[.agg #[.int .i64 st, .int .i64 mk, .string (bs im), .string (bs ar), .string (bs tx)]] w fun e w' => e = .returned (.int .i64 (if okP st mk im ar tx = true then 0 else 4)) ∧ Below w.heap.size w w' := by
  have H1 := Hid.mk' (fun W => isParser_any st mk im ar tx W hl)
  generalize okP st mk im ar tx = r1 at *
  generalize bs im = S1 at *
  generalize bs ar = S2 at *
  generalize bs tx = S3 at *
  have HB : Hid (∀ W, Below (w.alloc (.cells #[.int .i64 st, .int .i64 mk, .string S1, .string S2, .string S3] 23)).heap.size (w.alloc (.cells #[.int .i64 st, .int .i64 mk, .string S1, .string S2, .string S3] 23)) W → Below w.heap.size w W) := fun W hW => ((Below.refl _ _).alloc (Nat.le_refl _) _).trans (Below.mono hW (by simp))
  cases r1 with
  | false =>
    rw [if_neg (by decide)]
    go_enter Tryd.func7, Tryd.ntmps7
    go_wp2_with fail
    refine (H1.out _).mono ?_
    rintro e w2 ⟨rfl, hb⟩
    have HF := Hid.mk' (HB.out w2 hb)
    clear hb HB H1
    go_wp2
    go_ret
    exact ⟨rfl, HF.out⟩
  | true =>
    rw [if_pos rfl]
    go_enter Tryd.func7, Tryd.ntmps7
    go_wp2_with fail
    refine (H1.out _).mono ?_
    rintro e w2 ⟨rfl, hb⟩
    have HF := Hid.mk' (HB.out w2 hb)
    clear hb HB H1
    go_wp2
    go_ret
    exact ⟨rfl, HF.out⟩

theorem run_take (p : Ps) (l : List Int) (k : Nat) (h : k < l.length) : run p (l.take (k + 1)) = ((step (run p (l.take k)).1 l[k]).1, (run p (l.take k)).2 ++ (step (run p (l.take k)).1 l[k]).2) := by
  rw [List.take_succ_eq_append_getElem h, run_app]
  simp [run]
def RState (base : Nat) (w0 : World) (b bb : Nat) (p : Ps) (l : List Int) (s10 : Value) (wr : World) : Prop :=
  ∃ k : Nat, k ≤ l.length ∧ s10 = .int .i64 (k : Int) ∧ Hid (PX base wr b bb (run p (l.take k)).1 (run p (l.take k)).2) ∧ Hid (Fr base w0 wr)

set_option maxHeartbeats 4000000 in
set_option maxRecDepth 100000 in
theorem read_any (base b : Nat) (p : Ps) (w : World) (hB : Box w b 41 (rcells p (.slice none 0 0))) (hlo : base ≤ b) (hp : right p) (l : List Int) (a : Option Addr) (cap : Nat) (hc : l.length ≤ cap) (hl : l.length ≤ 274877906944)
    (hv : l = [] ∨ ∃ g off, a = some ⟨g, off, none⟩ ∧ g < base ∧ ∀ j (h : j < l.length), w.cell? ⟨g, off + j, none⟩ = some (.int .i64 l[j])) :
    Calls Tryd.prog 12 #[.pointer (some ⟨b, 0, none⟩), .slice a l.length cap] w fun e w' => e = .returned (.tuple #[]) ∧ ∃ bb, PX base w' b bb (run p l).1 (run p l).2 ∧ Fr base w w' := by
  have hbs : base ≤ w.heap.size := by have := hB.lt; omega
  have HS : Hid (RState base w b w.heap.size p l (.int .i64 0) (w.alloc (.cells #[.pointer (some ⟨b, 0, none⟩)] 54))) := by
    refine ⟨0, Nat.zero_le _, rfl, ⟨none, 0, [], rfl, ⟨?_, hlo, Box.new _ _ _, hbs, OwnA.nil _ _, fun x hx => by cases hx⟩⟩, fun B W hBb hW => hW.alloc (by omega) _⟩
    exact hB.alloc _
  have HT := Hid.mk' (fun bb q (hq : right q) L c W (h : PX base W b bb q L) (hc : 0 ≤ c ∧ c ≤ 1114111) (hn : L.length + 1 ≤ 1099511627776) => take_any base b bb q L c W h hq hc hn)
  have HR := Hid.mk' (fun k => run_right (l.take k) hp)
  have HL := Hid.mk' (fun k => run_few (l.take k) p)
  have HCE : Hid (∀ k (h : k < l.length), ∃ g off, a = some ⟨g, off, none⟩ ∧ ∀ W, Fr base w W → W.cell? ⟨g, off + k, none⟩ = some (.int .i64 l[k])) := fun k h => by
    rcases hv with h0 | ⟨g, off, e, hg, hcl⟩
    · subst h0; simp at h
    · exact ⟨g, off, e, fun W hW => ((hW base w (Nat.le_refl _) (Below.refl _ _)).cell (p := ⟨g, off + k, none⟩) hg).trans (hcl k h)⟩
  have HE : Hid (∀ W, PX base W b w.heap.size (run p (l.take l.length)).1 (run p (l.take l.length)).2 → Fr base w W → ∃ bb, PX base W b bb (run p l).1 (run p l).2 ∧ Fr base w W) := fun W h1 h2 => by
    rw [List.take_length] at h1
    exact ⟨_, h1, h2⟩
  clear hB hv hp
  go_enter Tryd.func12, Tryd.ntmps12
  go_wp2_with fail
  go_loopw [10] (fun s10 wr => RState base w b w.heap.size p l s10 wr) (fun i _ => l.length - (RowKit.intOf i).toNat)
  case atStart => exact HS.out
  case round =>
    obtain ⟨k, hk, rfl, HP, HF⟩ := hrel
    clear HS
    by_cases hlt : k < l.length
    · obtain ⟨g, off, ha, hcl⟩ := HCE.out k hlt
      subst ha
      have hcell := hcl wr HF.out
      have cb : wr.cell? ⟨w.heap.size, 0, none⟩ = some (.pointer (some ⟨b, 0, none⟩)) := by
        obtain ⟨_, _, _, _, h⟩ := HP.out
        exact h.cb
      have HN : Hid (∀ W, PX base W b w.heap.size (step (run p (l.take k)).1 l[k]).1 ((run p (l.take k)).2 ++ (step (run p (l.take k)).1 l[k]).2) → Fr base wr W → RState base w b w.heap.size p l (.int .i64 ((k : Int) + 1)) W) := fun W h1 h2 =>
        ⟨k + 1, by omega, by simp, by rw [Hid, run_take p l k hlt]; exact h1, HF.out.trans h2⟩
      have hlen : (run p (l.take k)).2.length + 1 ≤ 1099511627776 := by
        have h1 := HL.out k
        have h2 := List.length_take_le' k l
        omega
      have HST := Hid.mk' (fun (hc : 0 ≤ l[k] ∧ l[k] ≤ 1114111) => HT.out _ _ (HR.out k) _ l[k] wr HP.out hc hlen)
      have HSK : Hid ((l[k] < 0 ∨ 1114111 < l[k]) → RState base w b w.heap.size p l (.int .i64 ((k : Int) + 1)) wr) := fun h => HN.out wr (by
        have e : step (run p (l.take k)).1 l[k] = ((run p (l.take k)).1, []) := by unfold step; rw [if_pos h]
        rw [e, List.append_nil]
        exact HP.out) (Fr.refl _ _)
      clear HCE HE HL HR HT hcl HP HF
      generalize l[k] = c at *
      by_cases h0 : 0 ≤ c
      · by_cases h1 : c ≤ 1114111
        · have HS2 := Hid.mk' (HST.out ⟨h0, h1⟩)
          clear HST HSK hlen
          generalize step (run p (l.take k)).1 c = Y at *
          generalize run p (l.take k) = Z at *
          go_wp2_with fail
          refine HS2.out.mono ?_
          rintro e w2 ⟨rfl, h2, F2⟩
          have HN2 := Hid.mk' (HN.out w2 h2 F2)
          clear h2 F2 HN HS2 hcell cb
          go_wp2
          go_roundw
          case rel => exact HN2.out
          case measure => simp [RowKit.intOf]; omega
        · have HN2 := Hid.mk' (HSK.out (.inr (by omega)))
          clear HST HSK hlen HN
          go_wp2
          go_roundw
          case rel => exact HN2.out
          case measure => simp [RowKit.intOf]; omega
      · have HN2 := Hid.mk' (HSK.out (.inl (by omega)))
        clear HST HSK hlen HN
        go_wp2
        go_roundw
        case rel => exact HN2.out
        case measure => simp [RowKit.intOf]; omega
    · obtain rfl : k = l.length := by omega
      have H2 := Hid.mk' (HE.out wr HP.out HF.out)
      clear HCE HE HL HR HT HP HF
      go_wp2
      go_end0
      exact ⟨rfl, H2.out⟩

theorem sizeRd : (Tryd.prog.info? 41).map (·.size) = some 6 := by kernel_rfl
/-- acts, read -/
def RdA (w : World) (v : Value) (L : List Ac) : Prop :=
  ∃ a cap, ∃ xs : List (Ac × Value), v = .slice a L.length cap ∧ L.length ≤ cap ∧ xs.map Prod.fst = L ∧ (∀ x ∈ xs, RdI w x.2 x.1.args) ∧
    (L = [] ∨ ∃ b off, a = some ⟨b, off, none⟩ ∧ b < w.heap.size ∧ ∀ j u, (asC xs)[j]? = some u → w.cell? ⟨b, off + j, none⟩ = some u)
theorem RdA.below {w w' : World} {v : Value} {L : List Ac} (h : RdA w v L) (hb : Below w.heap.size w w') : RdA w' v L := by
  obtain ⟨a, cap, xs, e, hc, em, hr, hx⟩ := h
  refine ⟨a, cap, xs, e, hc, em, fun x hx => (hr x hx).below hb, ?_⟩
  rcases hx with h | ⟨b, off, e2, hbl, hT⟩
  · exact .inl h
  · exact .inr ⟨b, off, e2, by have := hb.size; omega, fun j u hu => (hb.cell (p := ⟨b, off + j, none⟩) hbl).trans (hT j u hu)⟩
theorem RdA.own {w : World} {base : Nat} {ad : Option Addr} {cap : Nat} {xs : List (Ac × Value)} (h : OwnA w base ad cap xs) (hr : ∀ x ∈ xs, RdI w x.2 x.1.args) : RdA w (.slice ad xs.length cap) (xs.map Prod.fst) := by
  unfold OwnA at h
  refine ⟨ad, cap, xs, by simp, ?_, rfl, hr, ?_⟩
  · rw [List.length_map]
    rcases h.form with ⟨e, h0⟩ | ⟨g, cap', e, _, hg, hc⟩
    · omega
    · simp only [Value.slice.injEq] at e
      obtain ⟨rfl, _, rfl⟩ := e
      exact hc
  · rcases h.form with ⟨e, h0⟩ | ⟨g, cap', e, _, hg, hc⟩
    · have : xs = [] := List.length_eq_zero_iff.1 h0
      subst this
      exact .inl rfl
    · simp only [Value.slice.injEq] at e
      obtain ⟨rfl, _, rfl⟩ := e
      refine .inr ⟨g, 0, rfl, hg, fun j u hu => ?_⟩
      have a := h.cells (g := g) rfl j u hu
      have hadd : (⟨g, 0, none⟩ : Addr).add j = ⟨g, j, none⟩ := by unfold Addr.add; split <;> simp_all
      rw [hadd] at a
      rw [Nat.zero_add]
      exact a
/-- all but the blocks of parsers stay as they are -/
def KeepP (w w' : World) : Prop := ∀ (k : Nat) (cs : Array Value) (t : TypeId) (fz : Nat × Nat), t ≠ 23 → w.heap[k]? = some (.cells cs t fz) → w'.heap[k]? = some (.cells cs t fz)
theorem KeepP.of {w w' : World} (h : Below w.heap.size w w') : KeepP w w' := fun k cs t fz _ hk => by
  rw [h.block k (Array.getElem?_eq_some_iff.1 hk).1]
  exact hk
/-- acts, read, in blocks of acts and of ints -/
def RdAT (w : World) (v : Value) (L : List Ac) : Prop :=
  ∃ a cap, ∃ xs : List (Ac × Value), v = .slice a L.length cap ∧ L.length ≤ cap ∧ xs.map Prod.fst = L ∧ (∀ x ∈ xs, RdT w x.2 x.1.args) ∧
    (L = [] ∨ ∃ (g : Nat) (cur : Array Value) (fz : Nat × Nat), a = some ⟨g, 0, none⟩ ∧ w.heap[g]? = some (.cells cur 35 fz) ∧ ∀ (j : Nat) (u : Value), (asC xs)[j]? = some u → cur[j]? = some u)
theorem RdAT.keep {w w' : World} {v : Value} {L : List Ac} (h : RdAT w v L) (hk : KeepP w w') : RdAT w' v L := by
  obtain ⟨a, cap, xs, e, hc, em, hr, hx⟩ := h
  refine ⟨a, cap, xs, e, hc, em, fun x hx => (hr x hx).keep (fun k cs fz h => hk k cs _ fz (by decide) h), ?_⟩
  rcases hx with h | ⟨g, cur, fz, e2, hg, hT⟩
  · exact .inl h
  · exact .inr ⟨g, cur, fz, e2, hk _ _ _ _ (by decide) hg, hT⟩
theorem RdAT.below {w w' : World} {v : Value} {L : List Ac} (h : RdAT w v L) (hb : Below w.heap.size w w') : RdAT w' v L := h.keep (KeepP.of hb)
theorem RdAT.nil (w : World) : RdAT w (.slice none 0 0) [] := ⟨none, 0, [], rfl, Nat.le_refl _, rfl, (fun _ hx => by cases hx), .inl rfl⟩
theorem RdAT.rd {w : World} {v : Value} {L : List Ac} (h : RdAT w v L) : RdA w v L := by
  obtain ⟨a, cap, xs, e, hc, em, hr, hx⟩ := h
  refine ⟨a, cap, xs, e, hc, em, fun x hx => (hr x hx).rd, ?_⟩
  rcases hx with h | ⟨g, cur, fz, e2, hg, hT⟩
  · exact .inl h
  · refine .inr ⟨g, 0, e2, (Array.getElem?_eq_some_iff.1 hg).1, fun j u hu => ?_⟩
    rw [Nat.zero_add, cell_of_row w g j cur _ fz hg]
    exact hT j u hu
theorem exec_loadP (ρ : Operand → Value) (x : Operand) (dst : Option Tmp) (t : TypeId) (pos : String) (af : Array Edge) (g : Option (Nat × Bool)) (w : World) (h : Lies w (ρ x) 5) :
    (execOp ρ { dst := dst, op := .load 23 x, type := t, pos := pos, after := af, guard := g }).run Tryd.prog w = .ok (.value (.agg (Q.rowAt w (ρ x) 5).toArray)) w :=
  exec_load 23 5 _ Tryd.underlying23 rfl sizePs ρ x dst t pos af g w h
theorem exec_storeP (ρ : Operand → Value) (x y : Operand) (dst : Option Tmp) (t : TypeId) (pos : String) (af : Array Edge) (g : Option (Nat × Bool)) (w : World) (h : Lies w (ρ x) 5) (hy : Holds (ρ y) 5) :
    (execOp ρ { dst := dst, op := .store 23 x y, type := t, pos := pos, after := af, guard := g }).run Tryd.prog w = .ok .skip (Q.putAt w (ρ x) (ρ y)) :=
  exec_store 23 5 sizePs ρ x y dst t pos af g w h hy
attribute [local go_sem ↓] exec_loadP exec_storeP
theorem PS.low {base : Nat} {w w' : World} {b bb : Nat} {p : Ps} {ad : Option Addr} {cap : Nat} {xs : List (Ac × Value)} {b' : Nat} {t : TypeId} {l : List Value} (h : PS base w b bb p ad cap xs) (hb : b' < base) (hB : Box w b' t l) (ht : t ≠ 3) (hw : ∀ k, k ≠ b' → w'.heap[k]? = w.heap[k]?) : PS base w' b bb p ad cap xs :=
  ⟨h.box.kept (hw b (by have := h.lo; omega)), h.lo, h.cl.kept (hw bb (by have := h.lo2; omega)), h.lo2, h.own.keptAt (fun g hg => hw g (by have := (h.own.lt g hg).1; omega)), fun x hx => (h.arg x hx).keep (KeepI.but hB ht hw)⟩
theorem PS.rd {base : Nat} {w : World} {b bb : Nat} {p : Ps} {ad : Option Addr} {cap : Nat} {xs : List (Ac × Value)} (h : PS base w b bb p ad cap xs) : RdAT w (.slice ad xs.length cap) (xs.map Prod.fst) := by
  have ho := h.own
  unfold OwnA OwnR at ho
  rcases ho.2 with ⟨e, h0⟩ | ⟨g, cap', cur, fz, e, hb, hg, hf, hnc, hcm, hcs, ht⟩
  · have : xs = [] := List.length_eq_zero_iff.1 h0
    subst this
    exact ⟨ad, cap, [], rfl, Nat.zero_le _, rfl, (fun _ hx => by cases hx), .inl rfl⟩
  · simp only [Value.slice.injEq] at e
    obtain ⟨rfl, _, rfl⟩ := e
    refine ⟨some ⟨g, 0, none⟩, cap, xs, by simp, by simpa using hnc, rfl, h.arg, .inr ⟨g, cur, fz, rfl, hg, fun j u hu => ?_⟩⟩
    have hj : j < xs.length * 6 := by have := (List.getElem?_eq_some_iff.1 hu).1; rwa [asC_length] at this
    rw [← ht, List.getElem?_take, if_pos hj] at hu
    simpa using hu
def pcells (p : Ps) : List Value := [.int .i64 (p.st : Int), .int .i64 p.mark, .string (bs p.inter), .string (bs p.args), .string (bs p.text)]
set_option maxHeartbeats 8000000 in
set_option maxRecDepth 100000 in
theorem Feed_ok (p : Ps) (hp : right p) (v : Value) (l : List Int) (w : World) (hv : RdI w v l) (hl : l.length ≤ 274877906944) :
    Calls Tryd.prog 5 #[.agg (pcells p).toArray, v] w fun e w' => ∃ vl, e = .returned (.tuple #[.agg (pcells (run p l).1).toArray, vl, .int .i64 0]) ∧ RdAT w' vl (run p l).2 ∧ Below w.heap.size w w' := by
  have hlen : p.inter.length ≤ 1099511627776 ∧ p.args.length ≤ 1099511627776 ∧ p.text.length ≤ 1099511627776 := by
    have := hp.ilen
    have := hp.alen
    have := hp.tlen
    omega
  have HC := Hid.mk' (fun W => Check_any (p.st : Int) p.mark p.inter p.args p.text W hlen)
  rw [if_pos (right_okP hp)] at HC
  have HR := Hid.mk' (fun base b W hB hlo a cap hc hv => read_any base b p W hB hlo hp l a cap hc hl hv)
  obtain ⟨a, cap, rfl, hcap, hv⟩ := hv
  have HV := Hid.mk' hv
  clear hv
  have b0 := (Box.new w 23 [.int .i64 (p.st : Int), .int .i64 p.mark, .string (bs p.inter), .string (bs p.args), .string (bs p.text)]).alloc (.cells #[.int .i64 0, .int .i64 0, .string ⟨#[]⟩, .string ⟨#[]⟩, .string ⟨#[]⟩] 23)
  have l0 : Lies ((w.alloc (.cells #[.int .i64 (p.st : Int), .int .i64 p.mark, .string (bs p.inter), .string (bs p.args), .string (bs p.text)] 23)).alloc (.cells #[.int .i64 0, .int .i64 0, .string ⟨#[]⟩, .string ⟨#[]⟩, .string ⟨#[]⟩] 23)) (.pointer (some ⟨w.heap.size, 0, none⟩)) 5 := b0.lies0 rfl
  have r0 : Q.rowAt ((w.alloc (.cells #[.int .i64 (p.st : Int), .int .i64 p.mark, .string (bs p.inter), .string (bs p.args), .string (bs p.text)] 23)).alloc (.cells #[.int .i64 0, .int .i64 0, .string ⟨#[]⟩, .string ⟨#[]⟩, .string ⟨#[]⟩] 23)) (.pointer (some ⟨w.heap.size, 0, none⟩)) 5 = [.int .i64 (p.st : Int), .int .i64 p.mark, .string (bs p.inter), .string (bs p.args), .string (bs p.text)] := b0.row0 rfl
  clear b0
  generalize run p l = Y at *
  obtain ⟨q, L⟩ := Y
  dsimp only at *
  unfold pcells
  go_enter Tryd.func5, Tryd.ntmps5
  go_wp2_with fail
  refine (HC.out _).mono ?_
  rintro e w2 ⟨rfl, hb⟩
  have B2 := Hid.mk' (show Below (w.heap.size + 2) ((w.alloc (.cells #[.int .i64 (p.st : Int), .int .i64 p.mark, .string (bs p.inter), .string (bs p.args), .string (bs p.text)] 23)).alloc (.cells #[.int .i64 0, .int .i64 0, .string ⟨#[]⟩, .string ⟨#[]⟩, .string ⟨#[]⟩] 23)) w2 from Below.mono hb (by simp))
  have bp : Box w2 w.heap.size 23 (pcells p) := ((Box.new w 23 (pcells p)).alloc _).below B2.out (by omega)
  have br : Box w2 (w.heap.size + 1) 23 [.int .i64 0, .int .i64 0, .string ⟨#[]⟩, .string ⟨#[]⟩, .string ⟨#[]⟩] := by
    have := (Box.new (w.alloc (.cells #[.int .i64 (p.st : Int), .int .i64 p.mark, .string (bs p.inter), .string (bs p.args), .string (bs p.text)] 23)) 23 [.int .i64 0, .int .i64 0, .string ⟨#[]⟩, .string ⟨#[]⟩, .string ⟨#[]⟩]).below B2.out (by simp)
    simpa using this
  have l2 : Lies w2 (.pointer (some ⟨w.heap.size, 0, none⟩)) 5 := bp.lies0 rfl
  have r2 : Q.rowAt w2 (.pointer (some ⟨w.heap.size, 0, none⟩)) 5 = [.int .i64 (p.st : Int), .int .i64 p.mark, .string (bs p.inter), .string (bs p.args), .string (bs p.text)] := bp.row0 rfl
  clear hb
  have HB4 := Hid.mk' (fun W (h : Fr w2.heap.size (w2.alloc (.cells (rcells p (.slice none 0 0)).toArray 41)) W) => show Box W (w.heap.size + 1) 23 [.int .i64 0, .int .i64 0, .string ⟨#[]⟩, .string ⟨#[]⟩, .string ⟨#[]⟩] ∧ Below w.heap.size w W from by
    have h2 : Below w2.heap.size w2 W := h _ _ (Nat.le_refl _) ((Below.refl _ _).alloc (Nat.le_refl _) _)
    have hsz := br.lt
    refine ⟨br.below h2 br.lt, ?_⟩
    have h0 : Below w.heap.size w w2 := (((Below.refl _ _).alloc (Nat.le_refl _) _).alloc (by simp) _).trans (Below.mono B2.out (by omega))
    exact h0.trans (Below.mono h2 (by omega)))
  have HR2 := Hid.mk' (HR.out w2.heap.size w2.heap.size (w2.alloc (.cells (rcells p (.slice none 0 0)).toArray 41)) (Box.new _ _ _) (Nat.le_refl _) a cap hcap (by
    rcases HV.out with h | ⟨g, off, e, hT, hg⟩
    · exact .inl h
    · have hsz := br.lt
      refine .inr ⟨g, off, e, by omega, fun j hj => ?_⟩
      have h0 : Below w.heap.size w w2 := (((Below.refl _ _).alloc (Nat.le_refl _) _).alloc (by simp) _).trans (Below.mono B2.out (by omega))
      exact ((h0.alloc h0.size _).cell (p := ⟨g, off + j, none⟩) hg).trans (hT j hj)))
  have hlt := br.lt
  unfold rcells at HR2 HB4
  clear HR B2 bp br HV HC
  go_wp2_with fail
  refine HR2.out.mono ?_
  rintro e w3 ⟨rfl, bb, h3, F3⟩
  obtain ⟨br3, BB3⟩ := HB4.out w3 F3
  have HB := Hid.mk' BB3
  obtain ⟨ad, cp, xs, eL, hps⟩ := h3
  have bx3 := hps.box
  have HPS := Hid.mk' hps
  clear HR2 HB4 F3 BB3 hps l0 r0 l2 r2
  generalize hvl : Value.slice ad xs.length cp = vl at *
  have hL : Lies w3.drew (.pointer (some ⟨w2.heap.size, 0, none⟩)) 5 := bx3.drew.lies (by simp [rcells])
  have hRo : Q.rowAt w3.drew (.pointer (some ⟨w2.heap.size, 0, none⟩)) 5 = [.int .i64 (q.st : Int), .int .i64 q.mark, .string (bs q.inter), .string (bs q.args), .string (bs q.text)] := by
    rw [bx3.drew.row (by simp [rcells])]; rfl
  have hS : Lies w3.drew (.pointer (some ⟨w.heap.size + 1, 0, none⟩)) 5 := br3.drew.lies0 rfl
  have hH : Holds (.agg #[.int .i64 (q.st : Int), .int .i64 q.mark, .string (bs q.inter), .string (bs q.args), .string (bs q.text)]) 5 := ⟨[.int .i64 (q.st : Int), .int .i64 q.mark, .string (bs q.inter), .string (bs q.args), .string (bs q.text)], rfl, rfl, by
    intro u hu
    simp only [List.mem_cons, List.mem_nil_iff, or_false] at hu
    rcases hu with rfl | rfl | rfl | rfl | rfl <;> rfl⟩
  have hP := br3.drew.putAt [.int .i64 (q.st : Int), .int .i64 q.mark, .string (bs q.inter), .string (bs q.args), .string (bs q.text)] rfl
  have c5 : w3.cell? ⟨w2.heap.size, 5, none⟩ = some vl := bx3.cell (j := 5) rfl
  have c5' : (Q.putAt w3.drew (.pointer (some ⟨w.heap.size + 1, 0, none⟩)) (.agg #[.int .i64 (q.st : Int), .int .i64 q.mark, .string (bs q.inter), .string (bs q.args), .string (bs q.text)])).cell? ⟨w2.heap.size, 5, none⟩ = some vl := (hP.keep bx3.drew (by omega)).cell (j := 5) rfl
  have HA : Hid (RdAT (Q.putAt w3.drew (.pointer (some ⟨w.heap.size + 1, 0, none⟩)) (.agg #[.int .i64 (q.st : Int), .int .i64 q.mark, .string (bs q.inter), .string (bs q.args), .string (bs q.text)])) vl (xs.map Prod.fst)) := by
    rw [← hvl]
    exact PS.rd ((HPS.out.drewN 1).low hlt br3.drew (by decide) hP.other)
  have HP := Hid.mk' hP
  clear hP HPS
  go_wp2_with fail
  go_region
  all_goals
    go_wp2
    exact ret_box3 Tryd.results5 23 [.int .i64 (q.st : Int), .int .i64 q.mark, .string (bs q.inter), .string (bs q.args), .string (bs q.text)] (w.heap.size + 1) _ Tryd.underlying23 rfl sizePs _ _ rfl rfl rfl HP.out.box rfl ⟨_, rfl, by rw [← eL]; exact HA.out, HP.out.below _ _ (by omega) (HB.out.drew)⟩

set_option maxHeartbeats 8000000 in
set_option maxRecDepth 100000 in
theorem Feed_bad (st mk : Int) (im ar tx : List UInt8) (hp : okP st mk im ar tx = false) (v : Value) (w : World) (hl : im.length ≤ 1099511627776 ∧ ar.length ≤ 1099511627776 ∧ tx.length ≤ 1099511627776) :
    Calls Tryd.prog 5 #[.agg #[.int .i64 st, .int .i64 mk, .string (bs im), .string (bs ar), .string (bs tx)], v] w fun e w' => e = .returned (.tuple #[.agg #[.int .i64 st, .int .i64 mk, .string (bs im), .string (bs ar), .string (bs tx)], .slice none 0 0, .int .i64 4]) ∧ Below w.heap.size w w' := by
  have HC := Hid.mk' (fun W => Check_any st mk im ar tx W hl)
  rw [hp, if_neg (by decide)] at HC
  generalize bs im = S1 at *
  generalize bs ar = S2 at *
  generalize bs tx = S3 at *
  have b0 := (Box.new w 23 [.int .i64 st, .int .i64 mk, .string S1, .string S2, .string S3]).alloc (.cells #[.int .i64 0, .int .i64 0, .string ⟨#[]⟩, .string ⟨#[]⟩, .string ⟨#[]⟩] 23)
  have l0 : Lies ((w.alloc (.cells #[.int .i64 st, .int .i64 mk, .string S1, .string S2, .string S3] 23)).alloc (.cells #[.int .i64 0, .int .i64 0, .string ⟨#[]⟩, .string ⟨#[]⟩, .string ⟨#[]⟩] 23)) (.pointer (some ⟨w.heap.size, 0, none⟩)) 5 := b0.lies0 rfl
  have r0 : Q.rowAt ((w.alloc (.cells #[.int .i64 st, .int .i64 mk, .string S1, .string S2, .string S3] 23)).alloc (.cells #[.int .i64 0, .int .i64 0, .string ⟨#[]⟩, .string ⟨#[]⟩, .string ⟨#[]⟩] 23)) (.pointer (some ⟨w.heap.size, 0, none⟩)) 5 = [.int .i64 st, .int .i64 mk, .string S1, .string S2, .string S3] := b0.row0 rfl
  clear b0
  have hH : Holds (.agg #[.int .i64 st, .int .i64 mk, .string S1, .string S2, .string S3]) 5 := ⟨[.int .i64 st, .int .i64 mk, .string S1, .string S2, .string S3], rfl, rfl, by
    intro u hu
    simp only [List.mem_cons, List.mem_nil_iff, or_false] at hu
    rcases hu with rfl | rfl | rfl | rfl | rfl <;> rfl⟩
  go_enter Tryd.func5, Tryd.ntmps5
  go_wp2_with fail
  refine (HC.out _).mono ?_
  rintro e w2 ⟨rfl, hb⟩
  have B2 := Hid.mk' (show Below (w.heap.size + 2) ((w.alloc (.cells #[.int .i64 st, .int .i64 mk, .string S1, .string S2, .string S3] 23)).alloc (.cells #[.int .i64 0, .int .i64 0, .string ⟨#[]⟩, .string ⟨#[]⟩, .string ⟨#[]⟩] 23)) w2 from Below.mono hb (by simp))
  have bp : Box w2 w.heap.size 23 [.int .i64 st, .int .i64 mk, .string S1, .string S2, .string S3] := ((Box.new w 23 [.int .i64 st, .int .i64 mk, .string S1, .string S2, .string S3]).alloc _).below B2.out (by omega)
  have br : Box w2 (w.heap.size + 1) 23 [.int .i64 0, .int .i64 0, .string ⟨#[]⟩, .string ⟨#[]⟩, .string ⟨#[]⟩] := by
    have := (Box.new (w.alloc (.cells #[.int .i64 st, .int .i64 mk, .string S1, .string S2, .string S3] 23)) 23 [.int .i64 0, .int .i64 0, .string ⟨#[]⟩, .string ⟨#[]⟩, .string ⟨#[]⟩]).below B2.out (by simp)
    simpa using this
  have l2 : Lies w2 (.pointer (some ⟨w.heap.size, 0, none⟩)) 5 := bp.lies0 rfl
  have r2 : Q.rowAt w2 (.pointer (some ⟨w.heap.size, 0, none⟩)) 5 = [.int .i64 st, .int .i64 mk, .string S1, .string S2, .string S3] := bp.row0 rfl
  have hS : Lies w2 (.pointer (some ⟨w.heap.size + 1, 0, none⟩)) 5 := br.lies0 rfl
  have hP := br.putAt [.int .i64 st, .int .i64 mk, .string S1, .string S2, .string S3] rfl
  have h0 : Below w.heap.size w w2 := (((Below.refl _ _).alloc (Nat.le_refl _) _).alloc (by simp) _).trans (Below.mono B2.out (by omega))
  have HF := Hid.mk' (And.intro hP h0)
  clear hb bp br hP h0 B2 l0 r0 HC
  go_wp2
  exact ret_box3 Tryd.results5 23 [.int .i64 st, .int .i64 mk, .string S1, .string S2, .string S3] (w.heap.size + 1) _ Tryd.underlying23 rfl sizePs _ _ rfl rfl rfl HF.out.1.box rfl ⟨rfl, HF.out.1.below _ _ (by omega) HF.out.2⟩
end Go.Proofs.YtneiiinheimglaaDoor.B
