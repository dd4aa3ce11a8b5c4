/-
  Contracts of environ.Read and environ.Wanted; no condition but that an int tells the text's length.
-/
import Derived.Test.YtbfiompbngpjoaaDoorERVar
namespace Go.Proofs.YtbfiompbngpjoaaDoor.E
open Go.RowKit Go.Lib Go.Proofs.YtbfiompbngpjoaaDoor Go.Proofs.YtbfiompbngpjoaaDoor.W Go.Proofs.YtbfiompbngpjoaaDoor.Q Go.Proofs.YtbfiompbngpjoaaDoor.C

/-- append(v, x), x just laid in block b -/
theorem wpList_append_v2 (w : World) {ops : Array Oper} {rest : List Oper} {o : Oper} {a : Act} {Q : Exit → Act → World → Prop} (hwd : Region.wanted o (yielded ops a.tmps) = true) (s x : Operand)
    (ho : o.op = .call { callee := .builtin .append, args := #[s, x], argTypes := #[22, 22] })
    (base : Nat) (ad : Option Addr) (cap : Nat) (l : List Vr) (n : Nat) (hs : a.eval s = .slice ad n cap) (hnl : n = l.length) (hown : OwnV w base ad cap l) (y : Vr) (ws : Array Value) (hws : ws = (vcells y).toArray) (b c : Nat) (hx : a.eval x = .slice (some ⟨b, 0, none⟩) 1 c) (hbe : b = w.heap.size) (hb : base ≤ w.heap.size) (hn : l.length ≤ 1099511627776)
    (h : ∀ ad' cap' l' w', Hid (l' = l ++ [y]) → OwnV w' base ad' cap' l' → (∀ B W, B ≤ base → Below B W w → Below B W w') → wpList Tryd.prog ops Q rest (a.put o.dst (.slice ad' l'.length cap')) w') : wpList Tryd.prog ops Q (o :: rest) a (w.alloc (.cells ws 30)) := by
  subst hbe
  exact wpList_append_v w hwd s x ho base ad cap l n hs hnl hown y ws hws c hx hb hn h
/-- so many variables are read -/
def DState (w : World) (s : List UInt8) (g : Nat) (s0 s4 : Value) (wr : World) : Prop :=
  ∃ (r : List UInt8) (n : Nat) (l : List Vr) (ad : Option Addr) (cap : Nat), s0 = .string (bs r) ∧ s4 = .slice ad n cap ∧ r.length ≤ g ∧ r.length ≤ 4096 ∧ n ≤ 20 ∧ Hid (n = l.length) ∧ Hid (OwnV wr w.heap.size ad cap l) ∧ Hid (rd s = (rd r).map fun m => l ++ m) ∧ Hid (∀ x ∈ l, long x = false) ∧ Hid (Below w.heap.size w wr)

theorem rd_step {s : List UInt8} {b : UInt8} {t r : List UInt8} {l : List Vr} {x : Vr} (h : rd s = (rd (b :: t)).map fun m => l ++ m) (hv : var0 (b :: t) = some (x, r)) : rd s = (rd r).map fun m => (l ++ [x]) ++ m := by
  rw [h, rd_cons hv, Option.map_map]
  congr 1
  funext m
  simp
theorem rd_bad {s : List UInt8} {b : UInt8} {t : List UInt8} {l : List Vr} (h : rd s = (rd (b :: t)).map fun m => l ++ m) (hv : ∀ y r, var0 (b :: t) = some (y, r) → long y = true) : ∀ m, rd s = some m → chk m ≠ 0 := by
  intro m hm
  cases hw : var0 (b :: t) with
  | none => rw [h, rd_none hw] at hm; cases hm
  | some p =>
    obtain ⟨y, r⟩ := p
    rw [rd_step h hw] at hm
    cases hr : rd r with
    | none => rw [hr] at hm; cases hm
    | some q =>
      rw [hr] at hm
      simp only [Option.map_some, Option.some.injEq] at hm
      rw [chk_long (v := y) (by rw [← hm]; simp) (hv y r hw)]
      decide
theorem rd_many {s : List UInt8} {b : UInt8} {t r : List UInt8} {l : List Vr} {x : Vr} (h : rd s = (rd (b :: t)).map fun m => l ++ m) (hv : var0 (b :: t) = some (x, r)) (hl : l.length = 20) : ∀ m, rd s = some m → chk m ≠ 0 := by
  intro m hm
  rw [rd_step h hv] at hm
  cases hr : rd r with
  | none => rw [hr] at hm; cases hm
  | some q =>
    rw [hr] at hm
    simp only [Option.map_some, Option.some.injEq] at hm
    rw [chk_many (by rw [← hm]; simp; omega)]
    decide

set_option maxHeartbeats 8000000 in
set_option maxRecDepth 100000 in
theorem Read_any (s : List UInt8) (w : World) (hz : s.length ≤ 9223372036854775807) :
    Calls Tryd.prog 7 #[.string (bs s)] w fun e w' => ∃ ad cap, e = .returned (.tuple #[.slice ad (readT s).1.length cap, .int .i64 (readT s).2]) ∧ OwnV w' w.heap.size ad cap (readT s).1 ∧ Below w.heap.size w w' := by
  have hsz := bs_size s
  by_cases h4 : 4096 < s.length
  · rw [readT_large h4]
    have h4' : (4096 : Int) < ((bs s).size : Int) := by omega
    generalize bs s = S at *
    go_enter Tryd.func7, Tryd.ntmps7
    go_wp2
    go_ret2
    exact ⟨none, 0, rfl, OwnV.nil _ _, Below.refl _ _⟩
  have h4' : ¬ (4096 : Int) < ((bs s).size : Int) := by omega
  have HN : Hid ((∀ m, rd s = some m → chk m ≠ 0) → readT s = ([], 4)) := fun h => readT_no (by omega) h
  have HO : Hid (∀ m, rd s = some m → chk m = 0 → readT s = (m, 0)) := fun m h1 h2 => readT_ok (by omega) h1 h2
  have HST : Hid (DState w s s.length (.string (bs s)) (.slice none 0 0) w) := ⟨s, 0, [], none, 0, rfl, rfl, Nat.le_refl _, by omega, by omega, rfl, OwnV.nil _ _, Hid.mk' (by simp), fun x h => (by cases h), Below.refl _ _⟩
  generalize readT s = R at *
  obtain ⟨R1, R2⟩ := R
  simp only at HN HO ⊢
  generalize bs s = S at *
  go_enter Tryd.func7, Tryd.ntmps7
  go_wp2_with fail
  go_loopg [0, 4] s.length (fun g s0 s4 wr => DState w s g s0 s4 wr)
  case atStart => exact HST.out
  case round =>
    obtain ⟨r, n, l, ad, cap, rfl, rfl, hg, hr, hn, HL, HV, HR, HG, HB⟩ := hrel
    clear HST
    have hbs := HB.out.size
    match r, hg, hr, HR with
    | [], _, _, HR =>
      have hm : rd s = some l := by rw [HR.out, rd_nil]; simp
      have hb := ((rd_iff _ _).1 hm).2
      have er := HO.out l hm (chk_ok (by have := HL.out; omega) HG.out hb)
      simp only [Prod.mk.injEq] at er
      obtain ⟨rfl, rfl⟩ := er
      have hE : (bs []).toList.isEmpty = true := by rw [bs_list]; rfl
      have hL := HL.out
      clear HN HO HR HG HL hm hb
      subst hL
      generalize bs [] = T at *
      go_wp2
      go_ret2
      exact ⟨ad, cap, rfl, HV.out, HB.out⟩
    | b :: t, hg, hr, HR =>
      have hE : (bs (b :: t)).toList.isEmpty = false := by rw [bs_list]; rfl
      simp only [List.length_cons] at hg hr
      have H1 := Hid.mk' (readVar_any b t wr (by omega))
      have HBAD := Hid.mk' (fun h => HN.out (rd_bad HR.out h))
      have HMANY := Hid.mk' (fun x r (hv : var0 (b :: t) = some (x, r)) (h : l.length = 20) => HN.out (rd_many HR.out hv h))
      have HSTEP := Hid.mk' (fun x r (hv : var0 (b :: t) = some (x, r)) => rd_step HR.out hv)
      have HLESS := Hid.mk' (fun x r (hv : var0 (b :: t) = some (x, r)) => (var0_less hv).1)
      clear HN HO HR
      generalize bs (b :: t) = T at *
      go_wp2_with fail
      refine H1.out.mono ?_
      rintro e w2 ⟨x, r2, ok, rfl, ⟨ha1, ha2⟩, hb2⟩
      have HB2 := Hid.mk' (HB.out.trans (hb2.mono hbs))
      have HV2 := Hid.mk' (HV.out.below hb2)
      have HA2 : Hid (∀ cs, Below w.heap.size w (w2.alloc (.cells cs 30))) := fun cs => HB2.out.alloc HB2.out.size _
      have hbs2 := HB2.out.size
      clear H1 hb2 HV HB
      cases ok with
      | false =>
        have er := HBAD.out (ha2 rfl)
        simp only [Prod.mk.injEq] at er
        obtain ⟨rfl, rfl⟩ := er
        clear HBAD HMANY HSTEP HLESS ha1 ha2 HG
        generalize bs x.name = x0 at *
        generalize bs x.value = x1 at *
        generalize x.user = x2 at *
        generalize x.set = x3 at *
        generalize bs r2 = T2 at *
        go_wp2
        go_ret2
        exact ⟨none, 0, rfl, OwnV.nil _ _, HA2.out _⟩
      | true =>
        obtain ⟨hv, hlg⟩ := ha1 rfl
        by_cases h20 : n = 20
        · have er := HMANY.out x r2 hv (by have := HL.out; omega)
          simp only [Prod.mk.injEq] at er
          obtain ⟨rfl, rfl⟩ := er
          have hq : ((n : Int) == 20) = true := by rw [h20]; rfl
          clear HBAD HMANY HSTEP HLESS ha1 ha2 HG hv hlg
          subst h20
          generalize bs x.name = x0 at *
          generalize bs x.value = x1 at *
          generalize x.user = x2 at *
          generalize x.set = x3 at *
          generalize bs r2 = T2 at *
          go_wp2
          go_ret2
          exact ⟨none, 0, rfl, OwnV.nil _ _, HA2.out _⟩
        · have hq : ((n : Int) == 20) = false := by rw [beq_eq_false_iff_ne]; omega
          have hq' : ¬ (n : Int) = 20 := by omega
          have HST2 := Hid.mk' (HSTEP.out x r2 hv)
          have hless := HLESS.out x r2 hv
          simp only [List.length_cons] at hless
          have HG2 : Hid (∀ y ∈ l ++ [x], long y = false) := fun y hy => by
            rw [List.mem_append, List.mem_singleton] at hy
            rcases hy with hy | rfl
            · exact HG.out y hy
            · exact hlg
          have HV3 : Hid (∀ cs, OwnV (w2.alloc (.cells cs 30)) w.heap.size ad cap l) := fun cs => HV2.out.below ((Below.refl _ _).alloc (Nat.le_refl _) _)
          have HW : Hid (#[.string (bs x.name), .string (bs x.value), .bool x.user, .bool x.set] = (vcells x).toArray) := Hid.mk' rfl
          have hsz2 : ∀ cs, (w2.alloc (.cells cs 30)).heap.size = w2.heap.size + 1 := fun cs => World.size_alloc _ _
          have hll : l.length ≤ 1099511627776 := by have := HL.out; omega
          clear HBAD HMANY HSTEP HLESS ha1 ha2 HG hv hlg HV2
          generalize bs x.name = x0 at *
          generalize bs x.value = x1 at *
          generalize x.user = x2 at *
          generalize x.set = x3 at *
          generalize hT2 : bs r2 = T2 at *
          have HT2 := Hid.mk' hT2
          clear hT2
          go_wp2_with (at_builtin; refine wpList_append_v2 _ (by rfl) _ _ rfl w.heap.size ad cap l n rfl HL.out (HV3.out _) x _ HW.out _ _ rfl (World.size_alloc _ _).symm (by rw [World.size_alloc]; omega) hll ?_)
          intro ad' cap' l' w5 hl' ho hb5
          have HB5 := Hid.mk' (hb5 _ _ (Nat.le_refl _) (HA2.out _))
          have HLL : Hid (∃ N : Nat, l'.length = N ∧ N ≤ 20 ∧ Hid (N = (l ++ [x]).length) ∧ OwnV w5 w.heap.size ad' cap' (l ++ [x])) := ⟨l'.length, rfl, by rw [hl'.out, List.length_append]; have := HL.out; simp; omega, by rw [hl'.out]; exact Hid.mk' rfl, by rw [← hl'.out]; exact ho⟩
          obtain ⟨N, hN, hN20, HN, hO⟩ := HLL.out
          have HO := Hid.mk' hO
          rw [hN]
          clear ho hb5 hl' HLL hO hN HA2 HV3 HW hsz2
          go_wp2
          go_roundg r2.length
          case measure => omega
          case rel => exact ⟨r2, N, l ++ [x], ad', cap', by rw [HT2.out], rfl, Nat.le_refl _, by omega, hN20, HN, HO, HST2, HG2, HB5⟩
end Go.Proofs.YtbfiompbngpjoaaDoor.E
