/-
  A slice of strings that the call owns; contract of choice.readAsk; condition: no text longer than an int tells.
-/
import Derived.Test.YtckgkncahaicoaaCAsk
import Derived.Test.YtckgkncahaicoaaCLike
import Derived.WalkSpells
namespace Go.Proofs.Ytckgkncahaicoaa.C
open Go.RowKit Go.Lib Go.Proofs.Ytckgkncahaicoaa Go.Proofs.Ytckgkncahaicoaa.W Go.Proofs.Ytckgkncahaicoaa.Q

theorem infoString : (Try.prog.info? 9).map (fun i => (i.zero, i.size, i.bytes)) = some (some (.string ⟨#[]⟩), 1, 16) := by kernel_rfl
/-- strings that the call owns from a block on -/
def OwnS (w : World) (base : Nat) (ad : Option Addr) (cap : Nat) (l : List ByteArray) : Prop := OwnR w base 9 1 (.slice ad l.length cap) l.length (scells l)
theorem OwnS.nil (w : World) (base : Nat) : OwnS w base none 0 [] := OwnR.nil _ _ _ _
theorem OwnS.below {w w' : World} {base : Nat} {ad : Option Addr} {cap : Nat} {l : List ByteArray} (h : OwnS w base ad cap l) (hb : Below w.heap.size w w') : OwnS w' base ad cap l := keptBy h hb
theorem OwnS.drewN {w : World} {base : Nat} {ad : Option Addr} {cap : Nat} {l : List ByteArray} (h : OwnS w base ad cap l) (n : Nat) : OwnS (w.drewN n) base ad cap l := h.below (below_drewN (Below.refl _ _) n)
theorem scells_one (l : List ByteArray) : ∀ u ∈ scells l, u.oneCell' = true := by
  intro u hu
  obtain ⟨c, _, rfl⟩ := List.mem_map.1 hu
  rfl
theorem OwnS.rd {w : World} {base : Nat} {ad : Option Addr} {cap : Nat} {l : List ByteArray} (h : OwnS w base ad cap l) : RdS w (.slice ad l.length cap) l := by
  unfold OwnS at h
  rcases h.form with ⟨e, e2⟩ | ⟨g, cap', e, _, hg, hc⟩
  · have : l = [] := List.length_eq_zero_iff.1 e2
    subst this
    exact ⟨ad, cap, rfl, by simp, .inl rfl⟩
  · simp only [Value.slice.injEq] at e
    obtain ⟨rfl, _, rfl⟩ := e
    refine ⟨_, cap, rfl, hc, .inr ⟨g, 0, rfl, fun j hj => ?_, hg⟩⟩
    have := h.cells (g := g) rfl j (.string l[j]) (by simp [scells, hj])
    have hadd : (⟨g, 0, none⟩ : Addr).add j = ⟨g, j, none⟩ := by unfold Addr.add; split <;> simp_all
    rw [hadd] at this
    rw [Nat.zero_add]; exact this

/-- append(v, x), x just laid -/
theorem wpList_append_s (w : World) {ops : Array Oper} {rest : List Oper} {o : Oper} {a : Act} {Q : Exit → Act → World → Prop} (hwd : Region.wanted o (yielded ops a.tmps) = true) (s x : Operand)
    (ho : o.op = .call { callee := .builtin .append, args := #[s, x], argTypes := #[22, 22] })
    (base : Nat) (ad : Option Addr) (cap : Nat) (l : List ByteArray) (n : Nat) (hs : a.eval s = .slice ad n cap) (hnl : n = l.length) (hown : OwnS w base ad cap l) (y : ByteArray) (c : Nat) (hx : a.eval x = .slice (some ⟨w.heap.size, 0, none⟩) 1 c) (hb : base ≤ w.heap.size) (hn : l.length ≤ 1099511627776)
    (h : ∀ ad' cap' l' w', Hid (l' = l ++ [y]) → OwnS w' base ad' cap' l' → (∀ B W, B ≤ base → Below B W w → Below B W w') → wpList Try.prog ops Q rest (a.put o.dst (.slice ad' l'.length cap')) w') : wpList Try.prog ops Q (o :: rest) a (w.alloc (.cells #[.string y] 9)) := by
  obtain ⟨i0, hi, hz0, hz1, hz2⟩ := info_parts infoString
  subst hnl
  unfold OwnS at hown h
  have hown' : OwnR (w.alloc (.cells #[.string y] 9)) base 9 1 (.slice ad l.length cap) l.length (scells l) := hown.keptAt fun k hk => Below.heap_alloc _ _ _ (hown.lt k hk).2
  obtain ⟨g, c2, w', a1, a2, a3, _, _⟩ := run_append_R (P := Try.prog) (w.alloc (.cells #[.string y] 9)) 22 o.type base 9 i0 (.string ⟨#[]⟩) 1 16 Try.underlying22 hi hz0 hz1 hz2 rfl (by decide) (.slice ad l.length cap) l.length (scells l) hown' ⟨w.heap.size, 0, none⟩ 1 c (scells [y]) (by simp [scells])
    (fun j u hu => World.news_of_block (MapKept.heap_alloc w (.cells #[.string y] 9)).1 j u (by simpa [scells] using hu)) (scells_one [y]) (by omega) (by unfold maxLen; omega) (by omega) (by simp; omega) _ rfl
  refine wpList_step fun K hK => ?_
  rw [if_pos hwd]
  unfold Oper.wp execOp
  simp only [ho, resolve, invoke, builtin, Sem.run_bind, Sem.run_pure, Result.andThen_ok, List.map_toArray, List.map_cons, List.map_nil, hs, hx, a1]
  have e1 : (l ++ [y]).length = l.length + 1 := by simp
  have e2 : scells (l ++ [y]) = scells l ++ scells [y] := by simp [scells]
  have a4 : OwnR w' base 9 1 (.slice (some ⟨g, 0, none⟩) (l ++ [y]).length c2) (l ++ [y]).length (scells (l ++ [y])) := by rw [e1, e2]; exact a2
  have hh := h _ c2 (l ++ [y]) w' (Hid.mk' rfl) a4
  rw [e1] at hh
  refine hK _ _ (hh ?_)
  exact fun B W hB hBW => (hBW.alloc (by omega) _).grown a3 (by simp; omega) (fun k hk => by have := (hown.lt k hk).1; omega)

/-- what is read of an ask, its head being right -/
def askedL (c : UInt8) (s : List UInt8) : Int × List ByteArray :=
  if ((pieces c s).all fun p => nameOk (bs p)) = true then if (pieces c s).length ≤ 8 then (0, (pieces c s).map bs) else (2, []) else (4, [])
def headOk (a c : UInt8) : Bool := decide (a = 1 ∧ 33 ≤ c.toNat ∧ c.toNat ≤ 126)
/-- what is read of an ask: the error, and the names -/
def asked : List UInt8 → Int × List ByteArray
  | a :: c :: s => if headOk a c = true then askedL c s else (4, [])
  | _ => (4, [])
theorem askedL_form {c : UInt8} {s : List UInt8} {p : List UInt8} (h : p ∈ pieces c s) (hp : nameOk (bs p) = false) : askedL c s = (4, []) := by
  unfold askedL
  rw [if_neg]
  intro hh
  have := List.all_eq_true.1 hh p h
  rw [hp] at this
  cases this
theorem askedL_large {c : UInt8} {s : List UInt8} (h : ∀ p ∈ pieces c s, nameOk (bs p) = true) (h8 : 8 < (pieces c s).length) : askedL c s = (2, []) := by
  unfold askedL
  rw [if_pos (List.all_eq_true.2 h), if_neg (by omega)]
theorem askedL_ok {c : UInt8} {s : List UInt8} (h : ∀ p ∈ pieces c s, nameOk (bs p) = true) (h8 : (pieces c s).length ≤ 8) : askedL c s = (0, (pieces c s).map bs) := by
  unfold askedL
  rw [if_pos (List.all_eq_true.2 h), if_pos h8]

def RState (w : World) (c : UInt8) (P : List (List UInt8)) (g : Nat) (s5 s6 s7 s8 : Value) (wr : World) : Prop :=
  ∃ (s : List UInt8) (more : Bool) (pre : List (List UInt8)) (ad : Option Addr) (cap : Nat),
    Hid (more = true → s.length + 1 ≤ g ∧ P = pre ++ pieces c s) ∧ Hid (more = false → P = pre) ∧ s5 = .string (bs s) ∧ s6 = .bool more ∧ Hid (∀ p ∈ pre, nameOk (bs p) = true) ∧
    s7 = .slice ad (min 8 pre.length) cap ∧ Hid (OwnS wr w.heap.size ad cap ((pre.take 8).map bs)) ∧ s8 = .bool (decide (8 < pre.length)) ∧ Hid (Below w.heap.size w wr) ∧ s.length ≤ 9223372036854775807
theorem cut_step (c : UInt8) (x : List UInt8) : ∃ nm rest more, cutOf c x = (bs nm, bs rest, more) ∧ (more = true → rest.length < x.length ∧ pieces c x = nm :: pieces c rest) ∧ (more = false → pieces c x = [nm]) ∧ rest.length ≤ x.length := by
  rcases cut_at c x with ⟨h1, h2⟩ | ⟨a, b, h1, h2, h3⟩
  · exact ⟨x, [], false, cutOf_no h2, fun h => (by cases h), fun _ => pieces_one c x h1, by simp⟩
  · subst h1
    exact ⟨a, b, true, cutOf_at h3, fun _ => ⟨by simp; omega, pieces_cut c b a h2⟩, fun h => (by cases h), by simp; omega⟩

set_option maxHeartbeats 4000000 in
set_option maxRecDepth 100000 in
theorem readAsk_ok (c : UInt8) (s : List UInt8) (w : World) (h33 : 33 ≤ c.toNat) (h126 : c.toNat ≤ 126) (hz : s.length + 2 ≤ 9223372036854775807) :
    Calls Try.prog 27 #[.string (bs (1 :: c :: s))] w fun e w' => ∃ v, e = .returned (.tuple #[v, .int .i64 (askedL c s).1]) ∧ RdS w' v (askedL c s).2 ∧ Below w.heap.size w w' := by
  have HFM : Hid (∀ p ∈ pieces c s, nameOk (bs p) = false → askedL c s = (4, [])) := fun p h hp => askedL_form h hp
  have HLG : Hid ((∀ p ∈ pieces c s, nameOk (bs p) = true) → 8 < (pieces c s).length → askedL c s = (2, [])) := fun h h8 => askedL_large h h8
  have HOK : Hid ((∀ p ∈ pieces c s, nameOk (bs p) = true) → (pieces c s).length ≤ 8 → askedL c s = (0, (pieces c s).map bs)) := fun h h8 => askedL_ok h h8
  have HCU : Hid (∀ (x : List UInt8) W, x.length ≤ 9223372036854775807 → Calls Try.prog 36 #[.string (bs x), .string ⟨#[c]⟩] W fun e w' => e = .returned (.tuple #[.string (cutOf c x).1, .string (cutOf c x).2.1, .bool (cutOf c x).2.2]) ∧ ∃ n, w' = W.drewN n) := fun x W h => Cut_one x c W h
  have HIN := Hid.mk' IsName_any
  have hsz : (bs (1 :: c :: s)).size = s.length + 2 := by rw [bs_size]; rfl
  have hx0 : (bs (1 :: c :: s)).extract 0 1 = ⟨#[1]⟩ := bs_take (1 :: c :: s) 1
  have hx1 : (bs (1 :: c :: s)).extract 1 2 = ⟨#[c]⟩ := bs_mid (1 :: c :: s) 1 1
  have hx2 : (bs (1 :: c :: s)).extract 2 (s.length + 2) = bs s := by rw [← hsz, bs_drop]; rfl
  have hg1 : ∀ h : 1 < (bs (1 :: c :: s)).size, (bs (1 :: c :: s))[1]'h = c := fun _ => rfl
  have HST : Hid (∀ q, RState w c (pieces c s) (s.length + 2) (.string (bs s)) (.bool true) (.slice none 0 0) (.bool false) (w.drewN q)) := fun q => ⟨s, true, [], none, 0, fun _ => ⟨by omega, rfl⟩, fun h => (by cases h), rfl, rfl, fun p hp => (by cases hp), rfl, OwnS.nil _ _, rfl, below_drewN (Below.refl _ _) q, by omega⟩
  have h33' : ¬ (c.toNat : Int) < 33 := by omega
  have h126' : ¬ (126 : Int) < (c.toNat : Int) := by omega
  generalize bs (1 :: c :: s) = D at *
  generalize hP : pieces c s = P at *
  generalize askedL c s = R at *
  obtain ⟨r1, r2⟩ := R
  generalize bs s = S0 at *
  generalize (⟨#[c]⟩ : ByteArray) = T at *
  have hg1 := hg1 (by omega)
  clear hP h33 h126
  go_enter Try.func27, Try.ntmps27
  go_wp2_with fail
  go_quiet (fail)
  go_wp2_with fail
  go_loopg [5, 6, 7, 8] (s.length + 2) (fun g s5 s6 s7 s8 wr => RState w c P g s5 s6 s7 s8 wr)
  case atStart => exact HST.out _
  case round =>
    obtain ⟨x, more, pre, ad, cap, HM, HE, rfl, rfl, HP, rfl, HO, rfl, HB, hx⟩ := hrel
    clear HST
    cases more with
    | false =>
      obtain rfl : P = pre := HE.out rfl
      clear HM HE HFM HIN HCU
      by_cases h8 : 8 < P.length
      · have er := HLG.out HP.out h8
        simp only [Prod.mk.injEq] at er
        obtain ⟨rfl, rfl⟩ := er
        have hd : decide (8 < P.length) = true := decide_eq_true h8
        clear HLG HOK HP
        generalize decide (8 < P.length) = d at *
        subst hd
        go_wp2
        go_ret2
        exact ⟨_, rfl, ⟨none, 0, rfl, by simp, .inl rfl⟩, HB.out⟩
      · have er := HOK.out HP.out (by omega)
        simp only [Prod.mk.injEq] at er
        obtain ⟨rfl, rfl⟩ := er
        have hd : decide (8 < P.length) = false := decide_eq_false h8
        have hmn : min 8 P.length = (P.map bs).length := by simp; omega
        have HRD : Hid (RdS wr (.slice ad (P.map bs).length cap) (P.map bs)) := by
          have := HO.out.rd
          rw [List.take_of_length_le (by omega)] at this
          exact this
        clear HLG HOK HP HO
        generalize decide (8 < P.length) = d at *
        subst hd
        rw [hmn]
        generalize (P.map bs).length = N at *
        go_wp2
        go_ret2
        exact ⟨_, rfl, HRD.out, HB.out⟩
    | true =>
      obtain ⟨hg, eP⟩ := HM.out rfl
      clear HM HE
      obtain ⟨nm, rest, more', hcut, hm1, hm2, hrl⟩ := cut_step c x
      have H1 := Hid.mk' (HCU.out x wr hx)
      rw [hcut] at H1
      have HM1 : Hid (more' = true → rest.length + 1 ≤ gk - 1 ∧ P = (pre ++ [nm]) ++ pieces c rest) := fun h => by
        obtain ⟨h1, h2⟩ := hm1 h
        refine ⟨by omega, ?_⟩
        rw [eP, h2, List.append_assoc]
        rfl
      have HM2 : Hid (more' = false → P = pre ++ [nm]) := fun h => by rw [eP, hm2 h]
      have hmem : nm ∈ P := by
        rw [eP]
        cases more' with
        | true => rw [(hm1 rfl).2]; simp
        | false => rw [hm2 rfl]; simp
      have H2 := Hid.mk' (HIN.out (bs nm))
      clear hcut hm1 hm2 HCU HIN
      have hrx : rest.length ≤ 9223372036854775807 := by omega
      have hgk : gk - 1 < gk := by omega
      clear hrl hx hg eP
      generalize bs x = X at *
      cases hnm : nameOk (bs nm) with
      | false =>
        have er := HFM.out nm hmem hnm
        simp only [Prod.mk.injEq] at er
        obtain ⟨rfl, rfl⟩ := er
        rw [hnm] at H2
        clear HFM HLG HOK HM1 HM2 HP hnm hmem HO
        generalize bs nm = NM at *
        generalize bs rest = RS at *
        generalize decide (8 < pre.length) = d at *
        generalize min 8 pre.length = N at *
        go_wp2_with fail
        refine H1.out.mono ?_
        rintro e w1 ⟨rfl, n, hw1⟩
        have HB1 : Hid (Below w.heap.size w w1) := by rw [hw1]; exact below_drewN HB.out n
        clear hw1
        go_wp2_with fail
        refine (H2.out _).mono ?_
        rintro e w2 ⟨rfl, rfl⟩
        go_wp2
        go_ret2
        exact ⟨_, rfl, ⟨none, 0, rfl, by simp, .inl rfl⟩, HB1.out⟩
      | true =>
        have HP1 : Hid (∀ p ∈ pre ++ [nm], nameOk (bs p) = true) := fun p hp => by
          rw [List.mem_append, List.mem_singleton] at hp
          rcases hp with hp | rfl
          · exact HP.out p hp
          · exact hnm
        rw [hnm] at H2
        clear HFM HLG HOK HP hnm hmem
        by_cases h8 : 8 ≤ pre.length
        · have hmin : min 8 pre.length = 8 := by omega
          have HO2 : Hid (∀ W, (∀ n, W = wr.drewN n → OwnS W w.heap.size ad cap (((pre ++ [nm]).take 8).map bs))) := fun W n hw => by
            rw [hw, List.take_append_of_le_length h8]
            exact HO.out.drewN n
          have hmin2 : min 8 (pre ++ [nm]).length = 8 := by simp; omega
          have hd2 : decide (8 < (pre ++ [nm]).length) = true := decide_eq_true (by simp; omega)
          have HR2 : Hid (∀ W n, W = wr.drewN n → RState w c P (gk - 1) (.string (bs rest)) (.bool more') (.slice ad 8 cap) (.bool true) W) := fun W n hw =>
            ⟨rest, more', pre ++ [nm], ad, cap, HM1.out, HM2.out, rfl, rfl, HP1.out, by rw [hmin2], HO2.out W n hw, by rw [hd2], by rw [hw]; exact below_drewN HB.out n, hrx⟩
          rw [hmin]
          clear HO HO2 HM1 HM2 HP1 hmin hmin2 hd2
          generalize bs nm = NM at *
          generalize bs rest = RS at *
          generalize decide (8 < pre.length) = d at *
          go_wp2_with fail
          refine H1.out.mono ?_
          rintro e w1 ⟨rfl, n, hw1⟩
          have HR3 := Hid.mk' (HR2.out w1 n hw1)
          clear hw1 HR2
          go_wp2_with fail
          refine (H2.out _).mono ?_
          rintro e w2 ⟨rfl, rfl⟩
          go_wp2
          go_roundg (gk - 1)
          case measure => exact hgk
          case rel => exact HR3.out
        · have hmin : min 8 pre.length = pre.length := by omega
          have htk : pre.take 8 = pre := List.take_of_length_le (by omega)
          have hlm : (pre.map bs).length = pre.length := by simp
          have HO1 : Hid (OwnS wr w.heap.size ad cap (pre.map bs)) := by
            have := HO.out
            rw [htk] at this
            exact this
          have hd : decide (8 < pre.length) = false := decide_eq_false (by omega)
          have hd2 : decide (8 < (pre ++ [nm]).length) = false := decide_eq_false (by simp; omega)
          have HR2 : Hid (∀ W ad' cap', OwnS W w.heap.size ad' cap' (pre.map bs ++ [bs nm]) → Below w.heap.size w W → RState w c P (gk - 1) (.string (bs rest)) (.bool more') (.slice ad' (pre.map bs ++ [bs nm]).length cap') (.bool false) W) := fun W ad' cap' h1 h2 => by
            refine ⟨rest, more', pre ++ [nm], ad', cap', HM1.out, HM2.out, rfl, rfl, HP1.out, ?_, ?_, by rw [hd2], h2, hrx⟩
            · have : (pre.map bs ++ [bs nm]).length = min 8 (pre ++ [nm]).length := by simp; omega
              rw [this]
            · rw [List.take_of_length_le (by simp; omega), List.map_append]
              exact h1
          have hne : ((pre.length : Int) == 8) = false := by apply beq_false_of_ne; omega
          have hl44 : (pre.map bs).length ≤ 1099511627776 := by omega
          have HBs := HB.out.size
          rw [hmin, hd]
          clear HO HM1 HM2 HP1 hmin hd hd2 htk
          generalize bs nm = NM at *
          generalize bs rest = RS at *
          generalize hpm : pre.map bs = PM at *
          clear hpm
          have HLM := Hid.mk' hlm
          clear hlm
          generalize pre.length = N0 at *
          go_wp2_with fail
          refine H1.out.mono ?_
          rintro e w1 ⟨rfl, n, hw1⟩
          have HB1 : Hid (Below w.heap.size w w1) := by rw [hw1]; exact below_drewN HB.out n
          have HO2 : Hid (OwnS w1 w.heap.size ad cap PM) := by rw [hw1]; exact HO1.out.drewN n
          have hs1 := HB1.out.size
          clear hw1 HO1 HB
          go_wp2_with fail
          refine (H2.out _).mono ?_
          rintro e w2 ⟨rfl, rfl⟩
          go_wp2_with (at_builtin; refine wpList_append_s _ (by rfl) _ _ rfl w.heap.size ad cap PM _ rfl HLM.out.symm HO2.out NM _ rfl hs1 hl44 ?_)
          intro ad' cap' l' w3 hl' ho3 hb3
          have HR3 : Hid (RState w c P (gk - 1) (.string RS) (.bool more') (.slice ad' l'.length cap') (.bool false) w3) := by
            rw [hl'.out] at ho3 ⊢
            exact HR2.out w3 ad' cap' ho3 (hb3 _ _ (Nat.le_refl _) HB1.out)
          clear ho3 hb3 HR2 HO2 hl'
          go_wp2
          go_roundg (gk - 1)
          case measure => exact hgk
          case rel => exact HR3.out

set_option maxHeartbeats 4000000 in
set_option maxRecDepth 100000 in
theorem readAsk_short (D : ByteArray) (w : World) (h : D.size < 2) :
    Calls Try.prog 27 #[.string D] w fun e w' => ∃ v, e = .returned (.tuple #[v, .int .i64 4]) ∧ RdS w' v [] ∧ Below w.heap.size w w' := by
  have h' : (D.size : Int) < 2 := by omega
  go_enter Try.func27, Try.ntmps27
  go_wp2
  go_ret2
  exact ⟨_, rfl, ⟨none, 0, rfl, by simp, .inl rfl⟩, Below.refl _ _⟩

set_option maxHeartbeats 4000000 in
set_option maxRecDepth 100000 in
theorem readAsk_head (a c : UInt8) (s : List UInt8) (w : World) (hh : headOk a c = false) :
    Calls Try.prog 27 #[.string (bs (a :: c :: s))] w fun e w' => ∃ v, e = .returned (.tuple #[v, .int .i64 4]) ∧ RdS w' v [] ∧ Below w.heap.size w w' := by
  have hh' := of_decide_eq_false hh
  have hsz : (bs (a :: c :: s)).size = s.length + 2 := by rw [bs_size]; rfl
  have hx0 : (bs (a :: c :: s)).extract 0 1 = ⟨#[a]⟩ := bs_take (a :: c :: s) 1
  have hg1 : ∀ h : 1 < (bs (a :: c :: s)).size, (bs (a :: c :: s))[1]'h = c := fun _ => rfl
  generalize bs (a :: c :: s) = D at *
  have hg1 := hg1 (by omega)
  by_cases h1 : a = 1
  · subst h1
    by_cases h2 : c.toNat < 33
    · have h2' : (c.toNat : Int) < 33 := by omega
      go_enter Try.func27, Try.ntmps27
      go_wp2
      go_ret2
      exact ⟨_, rfl, ⟨none, 0, rfl, by simp, .inl rfl⟩, Below.refl _ _⟩
    · have h2' : ¬ (c.toNat : Int) < 33 := by omega
      have h3 : ¬ c.toNat ≤ 126 := fun h => hh' ⟨rfl, by omega, h⟩
      have h3' : (126 : Int) < (c.toNat : Int) := by omega
      go_enter Try.func27, Try.ntmps27
      go_wp2
      go_ret2
      exact ⟨_, rfl, ⟨none, 0, rfl, by simp, .inl rfl⟩, Below.refl _ _⟩
  · have hq : ((⟨#[a]⟩ : ByteArray).toList == [1]) = false := by
      rw [ByteArray.toList_eq]
      apply beq_false_of_ne
      simpa using h1
    generalize (⟨#[a]⟩ : ByteArray) = A at *
    go_enter Try.func27, Try.ntmps27
    go_wp2
    go_ret2
    exact ⟨_, rfl, ⟨none, 0, rfl, by simp, .inl rfl⟩, Below.refl _ _⟩

theorem readAsk_any (d : List UInt8) (w : World) (hz : d.length ≤ 9223372036854775807) :
    Calls Try.prog 27 #[.string (bs d)] w fun e w' => ∃ v, e = .returned (.tuple #[v, .int .i64 (asked d).1]) ∧ RdS w' v (asked d).2 ∧ Below w.heap.size w w' := by
  match d, hz with
  | [], _ => exact readAsk_short (bs []) w (by rw [bs_size]; simp)
  | [x], _ => exact readAsk_short (bs [x]) w (by rw [bs_size]; simp)
  | a :: c :: s, hz =>
    rw [asked]
    cases hh : headOk a c with
    | false => exact readAsk_head a c s w hh
    | true =>
      have h := of_decide_eq_true hh
      rw [if_pos rfl, h.1]
      exact readAsk_ok c s w h.2.1 h.2.2 (by simpa using hz)
end Go.Proofs.Ytckgkncahaicoaa.C
