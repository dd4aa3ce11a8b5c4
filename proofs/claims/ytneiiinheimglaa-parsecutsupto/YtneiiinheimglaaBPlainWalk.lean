/-
  The walk of farkeep.ParsePlain: it returns true; condition: at most 1048576 runes.
-/
import Derived.Test.YtneiiinheimglaaBLives
namespace Go.Proofs.Ytneiiinheimglaa.B
open Go.RowKit Go.Lib Go.Proofs.Ytneiiinheimglaa Go.Proofs.Ytneiiinheimglaa.W Go.Proofs.Ytneiiinheimglaa.Q Go.Proofs.Ytneiiinheimglaa.C Go.Proofs.Ytneiiinheimglaa.Z

/-- append(v, x), x just laid -/
theorem wpList_append_a (w : World) {ops : Array Oper} {rest : List Oper} {o : Oper} {a : Act} {Q : Exit → Act → World → Prop} (hwd : Region.wanted o (yielded ops a.tmps) = true) (s x : Operand)
    (ho : o.op = .call { callee := .builtin .append, args := #[s, x], argTypes := #[25, 25] })
    (base : Nat) (ad : Option Addr) (cap : Nat) (l : List (Ac × Value)) (n : Nat) (hs : a.eval s = .slice ad n cap) (hnl : n = l.length) (hown : OwnA w base ad cap l) (y : Ac) (vy : Value) (hy1 : vy.oneCell' = true) (ws : Array Value) (hws : ws = (acells y vy).toArray) (g0 c : Nat) (hx : a.eval x = .slice (some ⟨g0, 0, none⟩) 1 c) (hg0 : g0 = w.heap.size) (hb : base ≤ w.heap.size) (hn : l.length ≤ 1099511627776)
    (h : ∀ ad' cap' l' w', Hid (l' = l ++ [(y, vy)]) → OwnA w' base ad' cap' l' → Fr base w w' → wpList Try.prog ops Q rest (a.put o.dst (.slice ad' l'.length cap')) w') : wpList Try.prog ops Q (o :: rest) a (w.alloc (.cells ws 34)) := by
  subst hnl hws hg0
  have hA : Below w.heap.size w (w.alloc (.cells (acells y vy).toArray 34)) := (Below.refl _ _).alloc (Nat.le_refl _) _
  obtain ⟨ad', cap', w', hr, ho2, hB, _, _⟩ := run_append_a (w.alloc (.cells (acells y vy).toArray 34)) o.type base ad cap l (hown.below hA) y vy hy1 w.heap.size c (Box.new _ _ _) (by simp; omega) hn
  refine wpList_step fun K hK => ?_
  rw [if_pos hwd]
  unfold Oper.wp execOp
  simp only [ho, resolve, invoke, builtin, Sem.run_bind, Sem.run_pure, Result.andThen_ok, List.map_toArray, List.map_cons, List.map_nil, hs, hx, hr]
  exact hK _ _ (h ad' cap' _ w' (Hid.mk' rfl) ho2 (fun B W hBb hW => hB B W hBb (hW.alloc (by omega) _)))

theorem run_len (l : List Int) (p : Ps) : (run p l).2.length ≤ 2 * l.length := run_few l p
theorem small_args {p : Ps} (hp : right p) (l : List Int) : ∀ y ∈ (run p l).2, y.args.length ≤ 17592186044416 := by
  intro y hy
  have h := run_shape l hp y hy
  have h32 : ∀ s, (readT s).1.length ≤ 32 := fun s => by
    unfold readT
    split
    · exact rd_len s
    · exact Nat.zero_le _
  rcases h with h | ⟨h, _⟩ | ⟨h, _⟩ | ⟨h, _⟩ | ⟨h, _, _, _, _, s, _, _, e⟩ | ⟨h, _⟩
  · rw [h]; exact Nat.zero_le _
  · rw [h]; exact Nat.zero_le _
  · rw [h]; exact Nat.zero_le _
  · rw [h]; exact Nat.zero_le _
  · rw [e]; have := h32 s; omega
  · rw [h]; exact Nat.zero_le _

def nilA (L : List Ac) : List (Ac × Value) := L.map fun y => (y, .slice none 0 0)
theorem nilA_map (L : List Ac) : (nilA L).map Prod.fst = L := by unfold nilA; rw [List.map_map]; exact List.map_id L
theorem nilA_len (L : List Ac) : (nilA L).length = L.length := by simp [nilA]
/-- so far no control came, and so many are wanted -/
def WS (w3 : World) (l : List Int) (s6 s24 : Value) (wr : World) : Prop :=
  ∃ (k : Nat) (L : List Ac) (ad : Option Addr) (cap : Nat), k ≤ l.length ∧ s24 = .int .i64 (k : Int) ∧ s6 = .slice ad (nilA L).length cap ∧ Hid (run p0 (l.take k) = (p0, L)) ∧ Hid (∀ y ∈ L, y.args = []) ∧ Hid (L.length ≤ 2 * l.length) ∧ Hid (OwnA wr w3.heap.size ad cap (nilA L)) ∧ Hid (Below w3.heap.size w3 wr)
theorem nilA_snoc (L : List Ac) (y : Ac) : nilA (L ++ [y]) = nilA L ++ [(y, .slice none 0 0)] := by unfold nilA; rw [List.map_append]; rfl
theorem eq_ps {q : Ps} (h : q = p0) : pcells q = [.int .i64 0, .int .i64 0, .string ⟨#[]⟩, .string ⟨#[]⟩, .string ⟨#[]⟩] := by rw [h]; rfl

set_option maxHeartbeats 16000000 in
set_option maxRecDepth 100000 in
theorem ParsePlain_any (v : Value) (l : List Int) (w : World) (hv : RdI w v l) (hl : l.length ≤ 1048576) :
    Calls Try.prog 4 #[v] w fun e w' => e = .returned (.bool true) ∧ Below w.heap.size w w' := by
  have HF := Hid.mk' (Feed_ok p0 right_p0 v l w hv (by omega))
  have hpc : pcells p0 = [.int .i64 0, .int .i64 0, .string ⟨#[]⟩, .string ⟨#[]⟩, .string ⟨#[]⟩] := rfl
  rw [hpc] at HF
  clear hpc
  have HL := Hid.mk' (fun W => lives_any W)
  have HRT := Hid.mk' (fun k (h : k < l.length) => run_take p0 l k h)
  have HSM := Hid.mk' (small_args right_p0 l)
  have HTK : Hid (run p0 (l.take l.length) = run p0 l) := by rw [Hid, List.take_length]
  have hfew := run_few l p0
  obtain ⟨a, cap, rfl, hcap, hr⟩ := hv
  have HV : Hid (∀ k (h : k < l.length), ∃ g off, a = some ⟨g, off, none⟩ ∧ ∀ W, Below w.heap.size w W → W.cell? ⟨g, off + k, none⟩ = some (.int .i64 l[k])) := fun k h => by
    rcases hr with h0 | ⟨g, off, e, hT, hg⟩
    · subst h0; simp at h
    · exact ⟨g, off, e, fun W hW => (hW.cell (p := ⟨g, off + k, none⟩) hg).trans (hT k h)⟩
  clear hr
  generalize hY : run p0 l = Y at *
  obtain ⟨q, M⟩ := Y
  dsimp only at *
  have HQ : Hid (∀ L, run p0 (l.take l.length) = (p0, L) → q = p0 ∧ M = L) := fun L h => by
    rw [HTK.out] at h
    injection h with h1 h2
    exact ⟨h1, h2⟩
  clear HTK hY
  go_enter Try.func4, Try.ntmps4
  go_wp2_with fail
  refine HF.out.mono ?_
  rintro e w1 ⟨vl, rfl, hrt, hb1⟩
  have hra := hrt.rd
  clear hrt
  unfold pcells
  have HA2 := Hid.mk' (hra.below ((Below.refl _ _).alloc (Nat.le_refl _) (.cells (pcells q).toArray 23)))
  have HB2 := Hid.mk' (hb1.alloc hb1.size (.cells (pcells q).toArray 23))
  have HX2 := Hid.mk' (Box.new w1 23 (pcells q))
  unfold pcells at HA2 HB2 HX2
  clear hra hb1 HF
  go_wp2_with fail
  refine (HL.out _).mono ?_
  rintro e w3 ⟨rfl, hb3⟩
  have HB3 := Hid.mk' (HB2.out.trans (Below.mono hb3 HB2.out.size))
  have HA3 := Hid.mk' (HA2.out.below hb3)
  have HX3 := Hid.mk' (HX2.out.later hb3)
  clear HA2 HB2 HX2 hb3 HL
  have HW0 : Hid (WS w3 l (.slice none 0 0) (.int .i64 0) w3) := ⟨0, [], none, 0, Nat.zero_le _, rfl, rfl, rfl, (fun y hy => by cases hy), Nat.zero_le _, OwnA.nil _ _, Below.refl _ _⟩
  go_wp2_with fail
  go_loopw [6, 24] (fun s6 s24 wr => WS w3 l s6 s24 wr) (fun _ i _ => l.length - (RowKit.intOf i).toNat)
  case atStart => exact HW0.out
  case round =>
    obtain ⟨k, L, ad, cp, hk, rfl, rfl, HR, HN, HLL, HO, HB⟩ := hrel
    clear HW0
    by_cases hlt : k < l.length
    · obtain ⟨g, off, ha, hcl⟩ := HV.out k hlt
      subst ha
      have hcell := hcl wr (HB3.out.trans (Below.mono HB.out HB3.out.size))
      have HST := Hid.mk' (HRT.out k hlt)
      clear hcl HV HRT HQ HSM HA3 HX3
      generalize l[k] = c at *
      rw [HR.out] at HST
      have HSK : Hid (¬ (0 ≤ c ∧ c < 32) → ¬ (32 ≤ c ∧ c ≤ 1114111 ∧ (c < 127 ∨ 160 ≤ c)) → WS w3 l (.slice ad (nilA L).length cp) (.int .i64 ((k : Int) + 1)) wr) := fun h1 h2 => by
        refine ⟨k + 1, L, ad, cp, by omega, by simp, rfl, ?_, HN, HLL, HO, HB⟩
        rw [Hid, HST.out]
        dsimp only
        rw [step_plain h1, if_neg h2, List.append_nil]
      have HAP : Hid (¬ (0 ≤ c ∧ c < 32) → (32 ≤ c ∧ c ≤ 1114111 ∧ (c < 127 ∨ 160 ≤ c)) → ∀ ad' cap' l' w', Hid (l' = nilA L ++ [(⟨1, c, 0, [], [], []⟩, .slice none 0 0)]) → OwnA w' w3.heap.size ad' cap' l' → Fr w3.heap.size wr w' → WS w3 l (.slice ad' l'.length cap') (.int .i64 ((k : Int) + 1)) w') := fun h1 h2 ad' cap' l' w' e ho hF => by
        have hr : run p0 (l.take (k + 1)) = (p0, L ++ [⟨1, c, 0, [], [], []⟩]) := by
          rw [HST.out]
          dsimp only
          rw [step_plain h1, if_pos h2]
        have hlen : (L ++ [(⟨1, c, 0, [], [], []⟩ : Ac)]).length ≤ 2 * l.length := by
          have := run_few (l.take (k + 1)) p0
          rw [hr] at this
          dsimp only at this
          have h3 := List.length_take_le' (k + 1) l
          omega
        have e2 : l' = nilA (L ++ [(⟨1, c, 0, [], [], []⟩ : Ac)]) := by rw [nilA_snoc]; exact e.out
        subst e2
        refine ⟨k + 1, L ++ [⟨1, c, 0, [], [], []⟩], ad', cap', by omega, by simp, rfl, Hid.mk' hr, fun y hy => ?_, Hid.mk' hlen, Hid.mk' ho, Hid.mk' (hF _ _ (Nat.le_refl _) HB.out)⟩
        rcases List.mem_append.1 hy with h | h
        · exact HN.out y h
        · rw [List.mem_singleton.1 h]
      have HEND := Hid.mk' (HB3.out.trans (Below.mono HB.out HB3.out.size))
      have hbw := HB.out.size
      have hnl : (nilA L).length ≤ 1099511627776 := by rw [nilA_len]; have := HLL.out; omega
      have HW : Hid (#[.int .i64 1, .int .i64 c, .int .i64 0, .string ⟨#[]⟩, .slice none 0 0, .string ⟨#[]⟩] = (acells ⟨1, c, 0, [], [], []⟩ (.slice none 0 0)).toArray) := Hid.mk' rfl
      clear HR HN HLL HB HB3 HST
      by_cases h0 : 0 ≤ c
      · by_cases h1 : c < 32
        · clear HSK HAP HO HW
          go_wp2
          go_ret
          exact ⟨rfl, HEND.out⟩
        · by_cases h2 : c ≤ 1114111
          · by_cases h3 : c < 127
            · have HA2 := Hid.mk' (HAP.out (by omega) (by omega))
              clear HSK HAP
              go_wp2_with (at_builtin; refine wpList_append_a _ (by rfl) _ _ rfl w3.heap.size ad cp (nilA L) _ rfl rfl HO.out ⟨1, c, 0, [], [], []⟩ (.slice none 0 0) rfl _ HW.out _ _ rfl rfl hbw hnl ?_)
              intro ad' cap' l' w' e ho hF
              have HN2 := Hid.mk' (HA2.out ad' cap' l' w' e ho hF)
              clear ho hF e HA2 HO HW
              go_wp2
              go_roundw
              case rel => exact HN2.out
              case measure => simp [RowKit.intOf]; omega
            · by_cases h4 : 160 ≤ c
              · have HA2 := Hid.mk' (HAP.out (by omega) (by omega))
                clear HSK HAP
                go_wp2_with (at_builtin; refine wpList_append_a _ (by rfl) _ _ rfl w3.heap.size ad cp (nilA L) _ rfl rfl HO.out ⟨1, c, 0, [], [], []⟩ (.slice none 0 0) rfl _ HW.out _ _ rfl rfl hbw hnl ?_)
                intro ad' cap' l' w' e ho hF
                have HN2 := Hid.mk' (HA2.out ad' cap' l' w' e ho hF)
                clear ho hF e HA2 HO HW
                go_wp2
                go_roundw
                case rel => exact HN2.out
                case measure => simp [RowKit.intOf]; omega
              · have HN2 := Hid.mk' (HSK.out (by omega) (by omega))
                clear HSK HAP HO HW
                go_wp2
                go_roundw
                case rel => exact HN2.out
                case measure => simp [RowKit.intOf]; omega
          · have HN2 := Hid.mk' (HSK.out (by omega) (by omega))
            clear HSK HAP HO HW
            go_wp2
            go_roundw
            case rel => exact HN2.out
            case measure => simp [RowKit.intOf]; omega
      · have HN2 := Hid.mk' (HSK.out (by omega) (by omega))
        clear HSK HAP HO HW
        go_wp2
        go_roundw
        case rel => exact HN2.out
        case measure => simp [RowKit.intOf]; omega
    · obtain rfl : k = l.length := by omega
      obtain ⟨e1, e2⟩ := HQ.out L HR.out
      subst e1 e2
      have hk2 : Hid (Calls Try.prog 9 #[vl, .slice ad (nilA M).length cp] wr fun e w' => e = .returned (.bool true) ∧ Below wr.heap.size wr w') := by
        have h2 : RdA wr (.slice ad (nilA M).length cp) M := by
          have := RdA.own HO.out (fun x hx => by
            unfold nilA at hx
            rw [List.mem_map] at hx
            obtain ⟨y, hy, rfl⟩ := hx
            show RdI wr (.slice none 0 0) y.args
            rw [HN.out y hy]
            exact RdI.nil _)
          rwa [nilA_map] at this
        exact SameActs_same M vl _ wr (HA3.out.below HB.out) h2 HSM.out (by omega)
      have HE2 := Hid.mk' (HB3.out.trans (Below.mono HB.out HB3.out.size))
      have bx := HX3.out.later HB.out
      have d0 : wr.cell? ⟨w1.heap.size, 0, none⟩ = some (.int .i64 0) := bx.cell (j := 0) rfl
      have d1 : wr.cell? ⟨w1.heap.size, 1, none⟩ = some (.int .i64 0) := bx.cell (j := 1) rfl
      have d2 : wr.cell? ⟨w1.heap.size, 2, none⟩ = some (.string ⟨#[]⟩) := bx.cell (j := 2) rfl
      have d3 : wr.cell? ⟨w1.heap.size, 3, none⟩ = some (.string ⟨#[]⟩) := bx.cell (j := 3) rfl
      have d4 : wr.cell? ⟨w1.heap.size, 4, none⟩ = some (.string ⟨#[]⟩) := bx.cell (j := 4) rfl
      clear bx HX3 HA3 HO HN HR HLL HSM HQ HB HB3 HRT HV
      go_wp2_with fail
      refine hk2.out.mono ?_
      rintro e w5 ⟨rfl, hb5⟩
      have HF := Hid.mk' (HE2.out.trans (Below.mono hb5 HE2.out.size))
      clear hk2 hb5 HE2
      go_wp2
      go_ret
      exact ⟨rfl, HF.out⟩
end Go.Proofs.Ytneiiinheimglaa.B
