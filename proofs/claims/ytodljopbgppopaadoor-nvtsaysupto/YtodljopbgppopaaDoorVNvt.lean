/-
  Contracts of nvt.Flush, nvt.take, nvt.Out and nvt.In; conditions: at most 1073741824 bytes.
-/
import Derived.Test.YtodljopbgppopaaDoorVPlain
import Derived.Test.YtodljopbgppopaaDoorProg
import Derived.Laws.BytesString
import Derived.OwnWalk
namespace Go.Proofs.YtodljopbgppopaaDoor.V
open Go.RowKit Go.Lib Go.Proofs.YtodljopbgppopaaDoor

theorem Hid.mk' {p : Prop} (h : p) : Hid p := h
def bcells (l : List UInt8) : List Value := l.map fun b => .int .u8 (b.toNat : Int)
theorem bcells_length (l : List UInt8) : (bcells l).length = l.length := by simp [bcells]
theorem bcells_one (l : List UInt8) : ∀ u ∈ bcells l, u.oneCell' = true := by
  intro u hu
  obtain ⟨c, _, rfl⟩ := List.mem_map.1 hu
  rfl
theorem bcells_app (a b : List UInt8) : bcells (a ++ b) = bcells a ++ bcells b := by simp [bcells]
theorem infoByte : (Tryd.prog.info? 5).map (fun i => (i.zero, i.size, i.bytes)) = some (some (.int .u8 0), 1, 1) := by kernel_rfl
theorem info_parts {P : Program} {t : TypeId} {z : Option Value} {s b : Nat} (h : (P.info? t).map (fun i => (i.zero, i.size, i.bytes)) = some (z, s, b)) : ∃ i, P.info? t = some i ∧ i.zero = z ∧ i.size = s ∧ i.bytes = b := by
  cases hi : P.info? t with
  | none => rw [hi] at h; simp at h
  | some i =>
    rw [hi] at h
    simp only [Option.map_some, Option.some.injEq, Prod.mk.injEq] at h
    exact ⟨i, rfl, h.1, h.2.1, h.2.2⟩
/-- bytes that the call owns from a block on -/
def OwnB (w : World) (base : Nat) (v : Value) (l : List UInt8) : Prop := OwnR w base 5 1 v l.length (bcells l)
theorem OwnB.nil (w : World) (base : Nat) : OwnB w base (.slice none 0 0) [] := OwnR.nil _ _ _ _
theorem keptBy {w w' : World} {base : Nat} {e : TypeId} {size : Nat} {v : Value} {n : Nat} {xs : List Value} (h : OwnR w base e size v n xs) (hb : Below w.heap.size w w') : OwnR w' base e size v n xs :=
  h.keptAt fun k hk => hb.block k (h.lt k hk).2
theorem bytes_append (a b : List UInt8) : (⟨a.toArray⟩ ++ ⟨b.toArray⟩ : ByteArray) = ⟨(a ++ b).toArray⟩ := by
  apply ByteArray.ext
  simp
theorem size_mk (l : List UInt8) : (⟨l.toArray⟩ : ByteArray).size = l.length := by simp [ByteArray.size]

theorem get_mk (l : List UInt8) : ∀ k (h : k < l.length) (h2 : k < (⟨l.toArray⟩ : ByteArray).size), (⟨l.toArray⟩ : ByteArray)[k]'h2 = l[k]'h := fun _ _ _ => rfl

theorem fold_push (l : List UInt8) : ∀ s : ByteArray, ((l.map fun b => ((b.toNat : Nat) : Int)).foldl (fun r n => r.push (UInt8.ofNat n.toNat)) s) = ⟨(s.data.toList ++ l).toArray⟩ := by
  induction l with
  | nil => intro s; simp
  | cons a l ih =>
    intro s
    rw [List.map_cons, List.foldl_cons, ih]
    congr 1
    simp [ByteArray.push]

theorem run_str {w : World} {base : Nat} {v : Value} {l : List UInt8} (h : OwnB w base v l) :
    (convert 31 9 v).run Tryd.prog w = .ok (.string ⟨l.toArray⟩) w := by
  unfold OwnB at h
  rcases h.form with ⟨rfl, h0⟩ | ⟨g, cap, rfl, _⟩
  · have : l = [] := List.length_eq_zero_iff.1 h0
    subst this
    rw [run_convert_bytes_string _ _ _ _ _ _ _ Tryd.underlying31 Tryd.underlying5 Tryd.underlying9]
    simp [Conv.bytesToString, Sem.run_pure]
    rfl
  · rw [run_convert_bytes_string _ _ _ _ _ _ _ Tryd.underlying31 Tryd.underlying5 Tryd.underlying9]
    have hl := run_loadCells_list (P := Tryd.prog) w ⟨g, 0, none⟩ (bcells l) (fun j u hu => h.cells (g := g) rfl j u hu)
    have e : (bcells l).length = l.length := by simp [bcells]
    rw [e] at hl
    have e2 : bcells l = (l.map fun b => ((b.toNat : Nat) : Int)).map (Value.int .u8) := by simp [bcells]
    rw [e2] at hl
    rw [run_bytesToString _ _ _ _ _ hl, fold_push]
    rfl

set_option maxHeartbeats 1000000 in
theorem Flush_any (cr : Bool) (w : World) : Calls Tryd.prog 9 #[.bool cr] w fun e w' => e = .returned (.string ⟨(flush cr).toArray⟩) ∧ Below w.heap.size w w' := by
  cases cr with
  | false =>
    go_enter Tryd.func9, Tryd.ntmps9
    go_wp2
    go_ret
    exact ⟨rfl, Below.refl _ _⟩
  | true =>
    have hown : OwnB (w.alloc (.cells #[.int .u8 13] 5)) 0 (.slice (some ⟨w.heap.size, 0, none⟩) 1 1) [13] :=
      ⟨rfl, .inr ⟨w.heap.size, 1, _, (0, 0), rfl, Nat.zero_le _, (MapKept.heap_alloc w _).1, .inl rfl, Nat.le_refl _, by unfold maxLen; omega, rfl, rfl⟩⟩
    have hstr := run_str hown
    clear hown
    go_enter Tryd.func9, Tryd.ntmps9
    go_wp2
    go_ret
    exact ⟨rfl, (Below.refl _ _).alloc (Nat.le_refl _) _⟩

/-- append(v, bytes that were just laid): v owned -/
theorem wpList_append_b (w : World) {ops : Array Oper} {rest : List Oper} {o : Oper} {a : Act} {Q : Exit → Act → World → Prop} (hwd : Region.wanted o (yielded ops a.tmps) = true) (s x : Operand)
    (ho : o.op = .call { callee := .builtin .append, args := #[s, x], argTypes := #[31, 31] })
    (base : Nat) (v : Value) (l m : List UInt8) (hs : a.eval s = v) (hown : OwnB w base v l) (ws : Array Value) (hws : ws = (bcells m).toArray) (k c : Nat) (hx : a.eval x = .slice (some ⟨w.heap.size, 0, none⟩) k c) (hk : k = m.length) (hm : 0 < m.length) (hb : base ≤ w.heap.size) (hn : l.length + m.length ≤ 100000000000)
    (h : ∀ v' w', OwnB w' base v' (l ++ m) → (∀ B W, B ≤ base → Below B W w → Below B W w') → wpList Tryd.prog ops Q rest (a.put o.dst v') w') : wpList Tryd.prog ops Q (o :: rest) a (w.alloc (.cells ws 5)) := by
  obtain ⟨i0, hi, hz0, hz1, hz2⟩ := info_parts infoByte
  unfold OwnB at hown h
  subst hws hk
  have hown' : OwnR (w.alloc (.cells (bcells m).toArray 5)) base 5 1 v l.length (bcells l) := hown.keptAt fun k hk => Below.heap_alloc _ _ _ (hown.lt k hk).2
  obtain ⟨g, c2, w', a1, a2, a3, _, _⟩ := run_append_R (P := Tryd.prog) (w.alloc (.cells (bcells m).toArray 5)) 31 o.type base 5 i0 (.int .u8 0) 1 1 Tryd.underlying31 hi hz0 hz1 hz2 rfl (by decide) v l.length (bcells l) hown' ⟨w.heap.size, 0, none⟩ m.length c (bcells m) (by simp [bcells])
    (fun j u hu => World.news_of_block (MapKept.heap_alloc w (.cells (bcells m).toArray 5)).1 j u (by simpa using hu)) (bcells_one m) hm (by unfold maxLen; omega) (by omega) (by simp; omega) _ rfl
  refine wpList_step fun K hK => ?_
  rw [if_pos hwd]
  unfold Oper.wp execOp
  simp only [ho, resolve, invoke, builtin, Sem.run_bind, Sem.run_pure, Result.andThen_ok, List.map_toArray, List.map_cons, List.map_nil, hs, hx, a1]
  refine hK _ _ (h _ w' ?_ ?_)
  · rw [List.length_append, bcells_app]; exact a2
  · exact fun B W hB hBW => (hBW.alloc (by omega) _).grown a3 (by simp; omega) (fun k hk => by have := (hown.lt k hk).1; omega)

theorem tk_lf : tk true 10 = (false, [10]) := rfl
theorem tk_nul : tk true 0 = (false, [13]) := rfl

set_option maxHeartbeats 4000000 in
set_option maxRecDepth 100000 in
theorem take_any (cr : Bool) (b : UInt8) (w : World) (base : Nat) (v : Value) (l : List UInt8) (ho : OwnB w base v l) (hb : base ≤ w.heap.size) (hl : l.length ≤ 10000000000) :
    Calls Tryd.prog 13 #[.bool cr, .int .u8 (b.toNat : Int), v] w fun e w' => ∃ v', e = .returned (.tuple #[.bool (tk cr b).1, v']) ∧ OwnB w' base v' (l ++ (tk cr b).2) ∧ (∀ B W, B ≤ base → Below B W w → Below B W w') := by
  cases cr with
  | false =>
    by_cases h : b = 13
    · subst h
      have hq : l ++ (tk false 13).2 = l := by simp [tk]
      rw [hq]
      clear hq
      have HO := Hid.mk' ho
      clear ho
      go_enter Tryd.func13, Tryd.ntmps13
      go_wp2
      go_ret2
      exact ⟨_, rfl, HO.out, fun B W _ h => h⟩
    · have hq : tk false b = (false, [b]) := by simp [tk, h]
      rw [hq]
      have hn : (b.toNat : Int) ≠ 13 := fun e => h (UInt8.toNat_inj.1 (Int.ofNat_inj.1 e))
      have HW : Hid (#[.int .u8 (b.toNat : Int)] = (bcells [b]).toArray) := Hid.mk' rfl
      clear hq
      generalize (b.toNat : Int) = y at *
      go_enter Tryd.func13, Tryd.ntmps13
      go_wp2_with (at_builtin; refine wpList_append_b _ (by rfl) _ _ rfl base v l [b] rfl ho _ HW.out _ _ rfl rfl (by simp) hb ?c1 ?_)
      case c1 => simp; omega
      intro v' w' ho' hbl
      have HO := Hid.mk' ho'
      have HB := Hid.mk' hbl
      clear ho' hbl
      go_wp2
      go_ret2
      exact ⟨_, rfl, HO.out, HB.out⟩
  | true =>
    have HW13 : Hid (#[.int .u8 13] = (bcells [13]).toArray) := Hid.mk' rfl
    have HW10 : Hid (#[.int .u8 10] = (bcells [10]).toArray) := Hid.mk' rfl
    by_cases h10 : b = 10
    · subst h10
      rw [tk_lf]
      go_enter Tryd.func13, Tryd.ntmps13
      go_wp2_with (at_builtin; refine wpList_append_b _ (by rfl) _ _ rfl base v l [10] rfl ho _ HW10.out _ _ rfl rfl (by simp) hb ?c1 ?_)
      case c1 => simp; omega
      intro v' w' ho' hbl
      have HO := Hid.mk' ho'
      have HB := Hid.mk' hbl
      clear ho' hbl
      go_wp2
      go_ret2
      exact ⟨_, rfl, HO.out, HB.out⟩
    by_cases h0 : b = 0
    · subst h0
      rw [tk_nul]
      go_enter Tryd.func13, Tryd.ntmps13
      go_wp2_with (at_builtin; refine wpList_append_b _ (by rfl) _ _ rfl base v l [13] rfl ho _ HW13.out _ _ rfl rfl (by simp) hb ?c1 ?_)
      case c1 => simp; omega
      intro v' w' ho' hbl
      have HO := Hid.mk' ho'
      have HB := Hid.mk' hbl
      clear ho' hbl
      go_wp2
      go_ret2
      exact ⟨_, rfl, HO.out, HB.out⟩
    by_cases h : b = 13
    · subst h
      rw [show tk true 13 = (true, [13]) from rfl]
      go_enter Tryd.func13, Tryd.ntmps13
      go_wp2_with (at_builtin; refine wpList_append_b _ (by rfl) _ _ rfl base v l [13] rfl ho _ HW13.out _ _ rfl rfl (by simp) hb ?c1 ?_)
      case c1 => simp; omega
      intro v' w' ho' hbl
      have HO := Hid.mk' ho'
      have HB := Hid.mk' hbl
      clear ho' hbl
      go_wp2
      go_ret2
      exact ⟨_, rfl, HO.out, HB.out⟩
    have hq : tk true b = (false, [13] ++ [b]) := by simp [tk, h, h0, h10]
    rw [hq]
    clear hq
    have hn : (b.toNat : Int) ≠ 13 := fun e => h (UInt8.toNat_inj.1 (Int.ofNat_inj.1 e))
    have hn0 : (b.toNat : Int) ≠ 0 := fun e => h0 (UInt8.toNat_inj.1 (Int.ofNat_inj.1 e))
    have hn10 : (b.toNat : Int) ≠ 10 := fun e => h10 (UInt8.toNat_inj.1 (Int.ofNat_inj.1 e))
    have HW : Hid (#[.int .u8 (b.toNat : Int)] = (bcells [b]).toArray) := Hid.mk' rfl
    generalize (b.toNat : Int) = y at *
    go_enter Tryd.func13, Tryd.ntmps13
    go_wp2_with (at_builtin; refine wpList_append_b _ (by rfl) _ _ rfl base v l [13] rfl ho _ HW13.out _ _ rfl rfl (by simp) hb ?c1 ?_)
    case c1 => simp; omega
    intro v1 w1 ho1 hbl1
    have hb1 : base ≤ w1.heap.size := Nat.le_trans hb (hbl1 0 w (Nat.zero_le _) (Below.refl _ _)).size
    have HB1 := Hid.mk' hbl1
    clear ho hbl1
    go_wp2_with (at_builtin; refine wpList_append_b _ (by rfl) _ _ rfl base v1 (l ++ [13]) [b] rfl ho1 _ HW.out _ _ rfl rfl (by simp) hb1 ?c1 ?_)
    case c1 => simp; omega
    intro v' w' ho' hbl
    have HO := Hid.mk' ho'
    have HB := Hid.mk' hbl
    clear ho' hbl
    go_wp2
    go_ret2
    exact ⟨_, rfl, HO.out, fun B W hB h => HB.out B W hB (HB1.out B W hB h)⟩

def OState (w : World) (l : List UInt8) (s3 s4 : Value) (wr : World) : Prop :=
  ∃ k : Nat, k ≤ l.length ∧ s4 = .int .i64 (k : Int) ∧ OwnB wr w.heap.size s3 (out (l.take k)) ∧ Below w.heap.size w wr

set_option maxHeartbeats 4000000 in
set_option maxRecDepth 100000 in
theorem Out_any (l : List UInt8) (binary : Bool) (w : World) (hl : l.length ≤ 1073741824) :
    Calls Tryd.prog 7 #[.string ⟨l.toArray⟩, .bool binary] w fun e w' => e = .returned (.string ⟨(outB binary l).toArray⟩) ∧ Below w.heap.size w w' := by
  cases binary with
  | true =>
    rw [show outB true l = l from rfl]
    generalize (⟨l.toArray⟩ : ByteArray) = S at *
    go_enter Tryd.func7, Tryd.ntmps7
    go_wp2
    go_ret
    exact ⟨rfl, Below.refl _ _⟩
  | false =>
    rw [show outB false l = out l from rfl]
    have hsz := size_mk l
    have HG := Hid.mk' (get_mk l)
    have HW13 : Hid (#[.int .u8 13, .int .u8 0] = (bcells [13, 0]).toArray) := Hid.mk' rfl
    have HW10 : Hid (#[.int .u8 13, .int .u8 10] = (bcells [13, 10]).toArray) := Hid.mk' rfl
    have HS : Hid (OState w l (.slice none 0 0) (.int .i64 0) w) := ⟨0, Nat.zero_le _, rfl, OwnB.nil _ _, Below.refl _ _⟩
    generalize (⟨l.toArray⟩ : ByteArray) = S at *
    go_enter Tryd.func7, Tryd.ntmps7
    go_wp2_with fail
    go_loopw [5, 11] (fun s3 s8 wr => OState w l s3 s8 wr) (fun _ i _ => l.length - (RowKit.intOf i).toNat)
    case atStart => exact HS.out
    case round =>
      obtain ⟨k, hk, rfl, ho, hbl⟩ := hrel
      clear HS
      have HB := Hid.mk' hbl
      have hswr := hbl.size
      clear hbl
      by_cases hlt : k < l.length
      · have hsb := HG.out k hlt (by omega)
        have hsn := out_snoc l k hlt
        have hol := out_take_len l k
        have HSN : Hid (∀ w' v' m, put l[k] = m → OwnB w' w.heap.size v' (out (l.take k) ++ m) → OwnB w' w.heap.size v' (out (l.take (k + 1)))) := fun w' v' m e h => by
          rw [hsn, e]; exact h
        clear hsn
        generalize l[k] = b at *
        generalize out (l.take k) = X at *
        by_cases h10 : b = 10
        · subst h10
          have HSN1 := Hid.mk' (fun w' v' => HSN.out w' v' [13, 10] rfl)
          clear HSN
          go_wp2_with (at_builtin; refine wpList_append_b _ (by rfl) _ _ rfl w.heap.size u5 X [13, 10] rfl ho _ HW10.out _ _ rfl rfl (by simp) hswr ?c1 ?_)
          case c1 => simp; omega
          intro v' w' ho' hbl
          have HO := Hid.mk' (HSN1.out w' v' ho')
          have HB2 := Hid.mk' (hbl _ _ (Nat.le_refl _) HB.out)
          clear ho' hbl ho
          go_wp2
          go_roundw
          case rel => exact ⟨k + 1, by omega, by go_num, HO.out, HB2.out⟩
          case measure => simp [RowKit.intOf]; omega
        by_cases h13 : b = 13
        · subst h13
          have HSN1 := Hid.mk' (fun w' v' => HSN.out w' v' [13, 0] rfl)
          clear HSN
          go_wp2_with (at_builtin; refine wpList_append_b _ (by rfl) _ _ rfl w.heap.size u5 X [13, 0] rfl ho _ HW13.out _ _ rfl rfl (by simp) hswr ?c1 ?_)
          case c1 => simp; omega
          intro v' w' ho' hbl
          have HO := Hid.mk' (HSN1.out w' v' ho')
          have HB2 := Hid.mk' (hbl _ _ (Nat.le_refl _) HB.out)
          clear ho' hbl ho
          go_wp2
          go_roundw
          case rel => exact ⟨k + 1, by omega, by go_num, HO.out, HB2.out⟩
          case measure => simp [RowKit.intOf]; omega
        have HSN1 := Hid.mk' (fun w' v' => HSN.out w' v' [b] (by unfold put; rw [if_neg h10, if_neg h13]))
        have hn : (b.toNat : Int) ≠ 13 := fun e => h13 (UInt8.toNat_inj.1 (Int.ofNat_inj.1 e))
        have hn10 : (b.toNat : Int) ≠ 10 := fun e => h10 (UInt8.toNat_inj.1 (Int.ofNat_inj.1 e))
        have HW : Hid (#[.int .u8 (b.toNat : Int)] = (bcells [b]).toArray) := Hid.mk' rfl
        clear HSN h10 h13
        have hsb2 : ((S[k]'(by omega)).toNat : Int) = (b.toNat : Int) := by rw [hsb]
        clear hsb
        generalize (b.toNat : Int) = y at *
        go_wp2_with (at_builtin; refine wpList_append_b _ (by rfl) _ _ rfl w.heap.size u5 X [b] rfl ho _ HW.out _ _ rfl rfl (by simp) hswr ?c1 ?_)
        case c1 => simp; omega
        intro v' w' ho' hbl
        have HO := Hid.mk' (HSN1.out w' v' ho')
        have HB2 := Hid.mk' (hbl _ _ (Nat.le_refl _) HB.out)
        clear ho' hbl ho
        go_wp2
        go_roundw
        case rel => exact ⟨k + 1, by omega, by go_num, HO.out, HB2.out⟩
        case measure => simp [RowKit.intOf]; omega
      · obtain rfl : k = l.length := by omega
        rw [List.take_length] at ho
        have hstr := run_str ho
        clear ho
        go_wp2
        go_ret
        exact ⟨rfl, HB.out⟩
end Go.Proofs.YtodljopbgppopaaDoor.V
