/-
  Contract of environ.pick; condition: at most 2^44 variables, of which at most 20 are wanted.
-/
import Derived.Test.YtbfiompbngpjoaaDoorEFirst
namespace Go.Proofs.YtbfiompbngpjoaaDoor.E
open Go.RowKit Go.Lib Go.Proofs.YtbfiompbngpjoaaDoor Go.Proofs.YtbfiompbngpjoaaDoor.W Go.Proofs.YtbfiompbngpjoaaDoor.Q Go.Proofs.YtbfiompbngpjoaaDoor.C

/-- append(v, x), x just laid in block b; of the old blocks only the row's own may become other -/
theorem wpList_append_v3 (w : World) {ops : Array Oper} {rest : List Oper} {o : Oper} {a : Act} {Q : Exit → Act → World → Prop} (hwd : Region.wanted o (yielded ops a.tmps) = true) (s x : Operand)
    (ho : o.op = .call { callee := .builtin .append, args := #[s, x], argTypes := #[22, 22] })
    (base : Nat) (ad : Option Addr) (cap : Nat) (l : List Vr) (n : Nat) (hs : a.eval s = .slice ad n cap) (hnl : n = l.length) (hown : OwnV w base ad cap l) (y : Vr) (ws : Array Value) (hws : ws = (vcells y).toArray) (b c : Nat) (hx : a.eval x = .slice (some ⟨b, 0, none⟩) 1 c) (hbe : b = w.heap.size) (hb : base ≤ w.heap.size) (hn : l.length ≤ 1099511627776)
    (h : ∀ ad' cap' l' w', Hid (l' = l ++ [y]) → OwnV w' base ad' cap' l' → (∀ B W, B ≤ base → Below B W w → Below B W w') → (∀ b, b < w.heap.size → ad ≠ some ⟨b, 0, none⟩ → w'.heap[b]? = w.heap[b]?) → (ad' = ad ∨ ∃ g, ad' = some ⟨g, 0, none⟩ ∧ w.heap.size ≤ g) → wpList Tryd.prog ops Q rest (a.put o.dst (.slice ad' l'.length cap')) w') : wpList Tryd.prog ops Q (o :: rest) a (w.alloc (.cells ws 30)) := by
  obtain ⟨i0, hi, hz0, hz1, hz2⟩ := info_parts infoVar
  subst hnl hws hbe
  unfold OwnV at hown h
  have hown' : OwnR (w.alloc (.cells (vcells y).toArray 30)) base 30 4 (.slice ad l.length cap) l.length (vsCells l) := hown.keptAt fun k hk => Below.heap_alloc _ _ _ (hown.lt k hk).2
  obtain ⟨g, c2, w', a1, a2, a3, a4, _⟩ := run_append_R (P := Tryd.prog) (w.alloc (.cells (vcells y).toArray 30)) 22 o.type base 30 i0 (.agg #[.string ⟨#[]⟩, .string ⟨#[]⟩, .bool false, .bool false]) 4 40 Tryd.underlying22 hi hz0 hz1 hz2 rfl (by decide) (.slice ad l.length cap) l.length (vsCells l) hown' ⟨w.heap.size, 0, none⟩ 1 c (vsCells [y]) (by simp [vsCells, vcells])
    (fun j u hu => World.news_of_block (MapKept.heap_alloc w (.cells (vcells y).toArray 30)).1 j u (by simpa [vsCells] using hu)) (vsCells_one [y]) (by omega) (by unfold maxLen; omega) (by omega) (by simp; omega) _ rfl
  have hob : ∀ k, (Value.slice ad l.length cap).ownBlock = some k → ad = some ⟨k, 0, none⟩ := fun k hk => by
    rcases hown.form with ⟨e, _⟩ | ⟨g', c', e, _⟩
    · simp only [Value.slice.injEq] at e
      obtain ⟨rfl, _⟩ := e
      simp [Value.ownBlock] at hk
    · simp only [Value.slice.injEq] at e
      obtain ⟨rfl, _⟩ := e
      simp [Value.ownBlock] at hk
      rw [hk]
  refine wpList_step fun K hK => ?_
  rw [if_pos hwd]
  unfold Oper.wp execOp
  simp only [ho, resolve, invoke, builtin, Sem.run_bind, Sem.run_pure, Result.andThen_ok, List.map_toArray, List.map_cons, List.map_nil, hs, hx, a1]
  have e1 : (l ++ [y]).length = l.length + 1 := by simp
  have a5 : OwnR w' base 30 4 (.slice (some ⟨g, 0, none⟩) (l ++ [y]).length c2) (l ++ [y]).length (vsCells (l ++ [y])) := by rw [e1, vsCells_app]; exact a2
  have hh := h _ c2 (l ++ [y]) w' (Hid.mk' rfl) a5
  rw [e1] at hh
  refine hK _ _ (hh ?_ ?_ ?_)
  · exact fun B W hB hBW => (hBW.alloc (by omega) _).grown a3 (by simp; omega) (fun k hk => by have := (hown.lt k hk).1; omega)
  · exact fun b hb hne => (a3.block b (by simp; omega) (fun e => hne (hob b e.symm))).trans (Below.heap_alloc _ _ _ hb)
  · rcases a4 with h | h
    · exact .inl (hob g h).symm
    · exact .inr ⟨g, rfl, by rw [h]; simp⟩

def sameUser (x : Vr) (v : Vr) : Bool := decide (v.user = x.user)
def PO (w : World) (l m : List Vr) (g : Nat) (s5 s12 : Value) (wr : World) : Prop :=
  ∃ (k n : Nat) (P : List Vr) (ad : Option Addr) (cap : Nat), k ≤ m.length ∧ m.length - k ≤ g ∧ s12 = .int .i64 (k : Int) ∧ s5 = .slice ad n cap ∧ n ≤ 21 + k ∧ Hid (n = P.length) ∧ Hid (OwnV wr w.heap.size ad cap P) ∧ Hid (P = pickT l (m.take k)) ∧ Hid (Below w.heap.size w wr)
def PI (w : World) (l Q : List Vr) (x : Vr) (b7 top : Nat) (g : Nat) (s5 s27 : Value) (wr : World) : Prop :=
  ∃ (j n : Nat) (P : List Vr) (ad : Option Addr) (cap : Nat), j ≤ l.length ∧ l.length - j ≤ g ∧ s27 = .int .i64 (j : Int) ∧ s5 = .slice ad n cap ∧ n ≤ top ∧ Hid (n = P.length) ∧ Hid (OwnV wr w.heap.size ad cap P) ∧ Hid (P = Q ++ (l.take j).filter (sameUser x)) ∧ Hid (Below w.heap.size w wr) ∧ Hid (Box wr b7 30 (vcells x)) ∧ Hid (ad ≠ some ⟨b7, 0, none⟩)
theorem pick_named {l m : List Vr} {k : Nat} (h : k < m.length) (hn : m[k].name ≠ []) : pickT l (m.take (k + 1)) = pickT l (m.take k) ++ [firstOf l m[k]] := by
  rw [take_snocV h, pickT_app, pickT, pickT, oneOf, if_neg hn]
  simp
theorem pick_all {l m : List Vr} {k : Nat} (h : k < m.length) (hn : m[k].name = []) : pickT l (m.take (k + 1)) = pickT l (m.take k) ++ l.filter (sameUser m[k]) := by
  rw [take_snocV h, pickT_app, pickT, pickT, oneOf, if_pos hn, List.append_nil]
  rfl
theorem pick_split {l m : List Vr} {k : Nat} : pickT l m = pickT l (m.take k) ++ pickT l (m.drop k) := by rw [← pickT_app, List.take_append_drop]
theorem pick_many {l m P : List Vr} {k j : Nat} (h : k < m.length) (hn : m[k].name = []) (hP : P = pickT l (m.take k) ++ (l.take j).filter (sameUser m[k])) (h20 : 20 < P.length) : writeT P = writeT (pickT l m) := by
  have e1 : P.length ≤ (pickT l m).length := by
    rw [pick_split (k := k + 1), pick_all h hn, hP]
    simp only [List.length_append]
    have : ((l.take j).filter (sameUser m[k])).length ≤ (l.filter (sameUser m[k])).length := (List.Sublist.filter _ (List.take_sublist j l)).length_le
    omega
  have c1 := chk_many h20
  have c2 : chk (pickT l m) = 2 := chk_many (by omega)
  rw [writeT_no (by rw [c1]; decide), writeT_no (by rw [c2]; decide), c1, c2]
theorem filter_yes {l : List Vr} {x : Vr} {j : Nat} (h : j < l.length) (hu : sameUser x l[j] = true) : (l.take (j + 1)).filter (sameUser x) = (l.take j).filter (sameUser x) ++ [l[j]] := by
  rw [take_snocV h, List.filter_append, List.filter_cons, if_pos hu]
  rfl
theorem filter_no {l : List Vr} {x : Vr} {j : Nat} (h : j < l.length) (hu : sameUser x l[j] = false) : (l.take (j + 1)).filter (sameUser x) = (l.take j).filter (sameUser x) := by
  rw [take_snocV h, List.filter_append, List.filter_cons, if_neg (by rw [hu]; simp)]
  simp

set_option maxHeartbeats 16000000 in
set_option maxRecDepth 100000 in
theorem pick_any (w : World) (v v2 : Value) (l m : List Vr) (hv : RdV w v l) (hv2 : RdV w v2 m) (hn : l.length ≤ 17592186044416) (hm : m.length ≤ 20) :
    Calls Tryd.prog 21 #[v, v2] w fun e w' => ∃ ad cap P, e = .returned (.slice ad P.length cap) ∧ OwnV w' w.heap.size ad cap P ∧ writeT P = writeT (pickT l m) ∧ P.length ≤ 100 ∧ Below w.heap.size w w' := by
  have HF : Hid (∀ W x, Below w.heap.size w W → Calls Tryd.prog 27 #[v, .agg #[.string (bs x.name), .string (bs x.value), .bool x.user, .bool x.set]] W fun e w' => e = .returned (.agg #[.string (bs (firstOf l x).name), .string (bs (firstOf l x).value), .bool (firstOf l x).user, .bool (firstOf l x).set]) ∧ Below W.heap.size W w') := fun W x h => first_any W v l x (hv.below h (Nat.le_refl _)) hn
  obtain ⟨a, c, rfl, hc, hr⟩ := hv
  obtain ⟨a2, c2, rfl, hc2, hr2⟩ := hv2
  go_enter Tryd.func21, Tryd.ntmps21
  go_wp2_with fail
  go_loopg [5, 12] m.length (fun g s5 s12 wr => PO w l m g s5 s12 wr)
  case atStart => exact ⟨0, 0, [], none, 0, Nat.zero_le _, by omega, rfl, rfl, by omega, rfl, OwnV.nil _ _, rfl, Below.refl _ _⟩
  case round =>
    obtain ⟨k, n, P, ad, cap, hk, hg, rfl, rfl, hn21, HL, HO, HP, HB⟩ := hrel
    obtain ⟨wo, hwo⟩ : ∃ wo, wo = wr := ⟨_, rfl⟩
    subst hwo
    have hbs := HB.out.size
    have hpl : P.length ≤ 1099511627776 := by have := HL.out; omega
    by_cases hlt : k < m.length
    · rcases hr2 with h0 | ⟨b2, o2, rfl, t2, hb2⟩
      · subst h0; simp at hlt
      obtain ⟨p0, p1, p2, p3⟩ := (t2 k hlt).below HB.out hb2
      have HA := fun cs => Hid.mk' (HB.out.alloc hbs (.cells cs 30))
      have HOA := fun cs => Hid.mk' (HO.out.below ((Below.refl wo.heap.size wo).alloc (Nat.le_refl _) (.cells cs 30)))
      by_cases hnm : m[k].name = []
      · have hE : (bs m[k].name).toList.isEmpty = true := by rw [bs_list, hnm]; rfl
        have HM : Hid (∀ P' j, P' = P ++ (l.take j).filter (sameUser m[k]) → 20 < P'.length → writeT P' = writeT (pickT l m)) := fun P' j h1 h2 => pick_many (j := j) hlt hnm (by rw [h1, HP.out]) h2
        have HD : Hid (∀ P', P' = P ++ (l.take l.length).filter (sameUser m[k]) → P' = pickT l (m.take (k + 1))) := fun P' h => by rw [h, List.take_length, pick_all hlt hnm, HP.out]
        have HX0 : Hid (Box (wo.alloc (.cells #[.string (bs m[k].name), .string (bs m[k].value), .bool m[k].user, .bool m[k].set] 30)) wo.heap.size 30 (vcells m[k])) := Box.new wo 30 (vcells m[k])
        have hne : ad ≠ some ⟨wo.heap.size, 0, none⟩ := fun e => by
          have := HO.out
          unfold OwnV at this
          have := (this.lt wo.heap.size (by rw [e]; rfl)).2
          omega
        have HST : Hid (PI w l P m[k] wo.heap.size (21 + k) l.length (.slice ad n cap) (.int .i64 0) (wo.alloc (.cells #[.string (bs m[k].name), .string (bs m[k].value), .bool m[k].user, .bool m[k].set] 30))) :=
          ⟨0, n, P, ad, cap, Nat.zero_le _, by omega, rfl, rfl, hn21, HL, (HOA _).out, Hid.mk' (by simp), (HA _).out, HX0.out, hne⟩
        clear HP HO HB HOA HA HX0 hne HF hnm t2
        generalize hx : m[k] = x at *
        clear hx
        generalize hz0 : bs x.name = z0 at *
        generalize hz1 : bs x.value = z1 at *
        have HZ := Hid.mk' (And.intro hz0 hz1)
        clear hz0 hz1
        go_wp2_with fail
        go_loopg [5, 27] l.length (fun g s5 s27 wr => PI w l P x wo.heap.size (21 + k) g s5 s27 wr)
        case atStart => exact HST.out
        case round =>
          obtain ⟨j, N, P', ad', cap', hj, hgj, rfl, rfl, hN, HL', HO', HP', HB', HX', HNE⟩ := hrel
          clear HST
          have hbs' := HB'.out.size
          have hb7 := HX'.out.lt
          by_cases hjl : j < l.length
          · rcases hr with h0 | ⟨b, o, rfl, t, hb⟩
            · subst h0; simp at hjl
            obtain ⟨y0, y1, y2, y3⟩ := (t j hjl).below HB'.out hb
            have HA := fun cs => Hid.mk' (HB'.out.alloc hbs' (.cells cs 30))
            have x2 := fun o => alloc_cell o (HX'.out.cell (j := 2) rfl) hb7
            by_cases h20 : 20 < N
            · have hw := Hid.mk' (HM.out P' j HP'.out (by have := HL'.out; omega))
              have h20' : (20 : Int) < (N : Int) := by omega
              have hNl := HL'.out
              have HOA := fun cs => Hid.mk' (HO'.out.below ((Below.refl wr.heap.size wr).alloc (Nat.le_refl _) (.cells cs 30)))
              clear HM HD HP' HO' HB' HX' HNE t HL' HL
              generalize bs l[j].name = q0 at *
              generalize bs l[j].value = q1 at *
              generalize l[j].user = q2 at *
              generalize l[j].set = q3 at *
              go_wp2
              go_ret
              exact ⟨ad', cap', P', by rw [← hNl]; rfl, (HOA _).out, hw.out, by omega, (HA _).out⟩
            · have h20' : ¬ (20 : Int) < (N : Int) := by omega
              by_cases hu : l[j].user = x.user
              · have hsu : sameUser x l[j] = true := decide_eq_true hu
                have HP2 : Hid (∀ P2, P2 = P' ++ [l[j]] → P2 = P ++ (l.take (j + 1)).filter (sameUser x)) := fun P2 h => by rw [h, HP'.out, filter_yes hjl hsu, List.append_assoc]
                have HOA := fun cs => Hid.mk' (HO'.out.below ((Below.refl wr.heap.size wr).alloc (Nat.le_refl _) (.cells cs 30)))
                have HW : Hid (#[.string (bs l[j].name), .string (bs l[j].value), .bool l[j].user, .bool l[j].set] = (vcells l[j]).toArray) := Hid.mk' rfl
                have HXA := fun cs => Hid.mk' (HX'.out.alloc (.cells cs 30))
                have hpl' : P'.length ≤ 1099511627776 := by have := HL'.out; omega
                rw [← hu] at x2
                clear HM HD HP' HO' HB' HX' t hsu hu HL
                generalize bs l[j].name = q0 at *
                generalize bs l[j].value = q1 at *
                generalize hq2 : l[j].user = q2 at *
                generalize l[j].set = q3 at *
                clear hq2
                go_wp2_with (at_builtin; refine wpList_append_v3 _ (by rfl) _ _ rfl w.heap.size ad' cap' P' N rfl HL'.out (HOA _).out l[j] _ HW.out _ _ rfl (World.size_alloc _ _).symm (by rw [World.size_alloc]; omega) hpl' ?_)
                intro ad5 cap5 l5 w5 hl5 ho5 hb5 hk5 hn5
                have HB5 := Hid.mk' (hb5 _ _ (Nat.le_refl _) (HA _).out)
                have HX5 := Hid.mk' ((HXA _).out.kept (hk5 wo.heap.size (by omega) HNE.out))
                have HN5 : Hid (ad5 ≠ some ⟨wo.heap.size, 0, none⟩) := fun e => by
                  rcases hn5 with h | ⟨g, h, h2⟩
                  · exact HNE.out (h.symm.trans e)
                  · rw [h] at e
                    simp only [Option.some.injEq, Addr.mk.injEq] at e
                    omega
                have HLL : Hid (∃ N5 : Nat, l5.length = N5 ∧ N5 ≤ 21 + k ∧ Hid (N5 = l5.length)) := ⟨l5.length, rfl, by rw [hl5.out, List.length_append]; have := HL'.out; simp; omega, rfl⟩
                obtain ⟨N5, hN5, hN5b, HN5L⟩ := HLL.out
                have HO5 := Hid.mk' ho5
                have HP5 := Hid.mk' (HP2.out l5 hl5.out)
                rw [hN5]
                clear ho5 hb5 hk5 hn5 hl5 HLL HOA HA HXA HW HP2 hN5 HNE HL'
                go_wp2
                go_roundg (l.length - (j + 1))
                case measure => omega
                case rel => exact ⟨j + 1, N5, l5, ad5, cap5, by omega, by omega, by go_num, rfl, hN5b, HN5L, HO5, HP5, HB5, HX5, HN5⟩
              · have hsu : sameUser x l[j] = false := decide_eq_false hu
                have HP2 : Hid (P' = P ++ (l.take (j + 1)).filter (sameUser x)) := by rw [filter_no hjl hsu]; exact HP'
                have hub : (l[j].user == x.user) = false := beq_eq_false_iff_ne.2 hu
                have HOA := fun cs => Hid.mk' (HO'.out.below ((Below.refl wr.heap.size wr).alloc (Nat.le_refl _) (.cells cs 30)))
                have HXA := fun cs => Hid.mk' (HX'.out.alloc (.cells cs 30))
                clear HM HD HP' HO' HB' HX' t hsu hu HL
                generalize bs l[j].name = q0 at *
                generalize bs l[j].value = q1 at *
                generalize l[j].user = q2 at *
                generalize l[j].set = q3 at *
                generalize x.user = xu at *
                go_wp2
                go_roundg (l.length - (j + 1))
                case measure => omega
                case rel => exact ⟨j + 1, N, P', ad', cap', by omega, by omega, by go_num, rfl, hN, HL', HOA _, HP2, HA _, HXA _, HNE⟩
          · obtain rfl : j = l.length := by omega
            have HP2 := Hid.mk' (HD.out P' HP'.out)
            clear HM HD HP' HX' HNE HL
            go_wp2
            go_roundg (m.length - (k + 1))
            case measure => omega
            case rel => exact ⟨k + 1, N, P', ad', cap', by omega, by omega, by go_num, rfl, by omega, HL', HO', HP2, HB'⟩
      · have hE : (bs m[k].name).toList.isEmpty = false := by
          rw [bs_list]
          cases hv : m[k].name with
          | nil => exact absurd hv hnm
          | cons a t => rfl
        have HP2 : Hid (∀ P2, P2 = P ++ [firstOf l m[k]] → P2 = pickT l (m.take (k + 1))) := fun P2 h => by rw [h, pick_named hlt hnm, HP.out]
        have HF1 := Hid.mk' (fun cs => HF.out _ m[k] (HA cs).out)
        have HW : Hid (#[.string (bs (firstOf l m[k]).name), .string (bs (firstOf l m[k]).value), .bool (firstOf l m[k]).user, .bool (firstOf l m[k]).set] = (vcells (firstOf l m[k])).toArray) := Hid.mk' rfl
        clear HP HO HB HF hnm t2
        generalize firstOf l m[k] = f at *
        generalize bs m[k].name = z0 at *
        generalize bs m[k].value = z1 at *
        generalize m[k].user = z2 at *
        generalize m[k].set = z3 at *
        go_wp2_with fail
        refine (HF1.out _).mono ?_
        rintro e w3 ⟨rfl, hb3⟩
        have HB3 := Hid.mk' ((HA _).out.trans (hb3.mono (HA _).out.size))
        have HO3 := Hid.mk' ((HOA _).out.below hb3)
        have hbs3 := HB3.out.size
        clear hb3 HF1 HA HOA
        generalize bs f.name = f0 at *
        generalize bs f.value = f1 at *
        generalize f.user = f2 at *
        generalize f.set = f3 at *
        go_wp2_with (at_builtin; refine wpList_append_v2 _ (by rfl) _ _ rfl w.heap.size ad cap P n rfl HL.out HO3.out f _ HW.out _ _ rfl rfl hbs3 hpl ?_)
        intro ad5 cap5 l5 w5 hl5 ho5 hb5
        have HB5 := Hid.mk' (hb5 _ _ (Nat.le_refl _) HB3.out)
        have HLL : Hid (∃ N5 : Nat, l5.length = N5 ∧ N5 ≤ 21 + (k + 1) ∧ Hid (N5 = l5.length)) := ⟨l5.length, rfl, by rw [hl5.out, List.length_append]; have := HL.out; simp; omega, rfl⟩
        obtain ⟨N5, hN5, hN5b, HN5L⟩ := HLL.out
        have HO5 := Hid.mk' ho5
        have HP5 := Hid.mk' (HP2.out l5 hl5.out)
        rw [hN5]
        clear ho5 hb5 hl5 HLL HW HP2 hN5 HB3 HO3
        go_wp2
        go_roundg (m.length - (k + 1))
        case measure => omega
        case rel => exact ⟨k + 1, N5, l5, ad5, cap5, by omega, by omega, by go_num, rfl, hN5b, HN5L, HO5, HP5, HB5⟩
    · obtain rfl : k = m.length := by omega
      have hw : Hid (writeT P = writeT (pickT l m)) := by rw [HP.out, List.take_length]; exact Hid.mk' rfl
      have hNl := HL.out
      clear HP HF HL
      go_wp2
      go_ret
      exact ⟨ad, cap, P, by rw [← hNl]; rfl, HO.out, hw.out, by omega, HB.out⟩
end Go.Proofs.YtbfiompbngpjoaaDoor.E
