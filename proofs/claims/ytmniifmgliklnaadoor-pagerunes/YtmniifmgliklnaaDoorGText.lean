/-
  Contracts of page.Byte, page.Read and page.Write; conditions: the table page.lineSigns holds what its initialiser lays; Read: at most 2^44 bytes; Write: at most 2^44 runes.
-/
import Derived.Test.YtmniifmgliklnaaDoorGPage
import Derived.BigQuiet
namespace Go.Proofs.YtmniifmgliklnaaDoor.G
open Go.RowKit Go.Lib Go.Proofs.YtmniifmgliklnaaDoor

set_option maxHeartbeats 4000000 in
theorem Byte_any (p r : Int) (w : World) (hT : Tab w) : Calls Tryd.prog 9 #[.int .i64 p, .int .i64 r] w fun e w' =>
    e = .returned (if isP p = true then (match byF p r with | some b => .tuple #[.int .u8 (b : Int), .int .i64 0] | none => .tuple #[.int .u8 0, .int .i64 6]) else .tuple #[.int .u8 0, .int .i64 6]) ∧ w' = w := by
  have HP := Hid.mk' (isPage_any p w)
  have HZ := Hid.mk' (size_any p w)
  have HS := Hid.mk' (fun b hb => sign_any p b w hb hT)
  cases h : isP p with
  | false =>
    rw [h] at HP
    rw [if_neg (by decide)]
    go_enter Tryd.func9, Tryd.ntmps9
    go_wp2_with fail
    refine HP.out.mono ?_
    rintro e w1 ⟨rfl, rfl⟩
    go_wp2
    go_ret2
    exact ⟨rfl, rfl⟩
  | true =>
    rw [h] at HP
    rw [if_pos rfl]
    have hsz := sz_le p
    have HN : Hid ((∀ b, b < sz p → sg p b ≠ r) → byF p r = none) := byF_none
    have HF : Hid (∀ b, b < sz p → sg p b = r → (∀ a, a < b → sg p a ≠ r) → byF p r = some b) := fun b h1 h2 h3 => byF_first h1 h2 h3
    generalize sz p = n at *
    generalize byF p r = R at *
    clear hT
    go_enter Tryd.func9, Tryd.ntmps9
    go_wp2_with fail
    refine HP.out.mono ?_
    rintro e w1 ⟨rfl, rfl⟩
    go_wp2_with fail
    refine HZ.out.mono ?_
    rintro e w1 ⟨rfl, rfl⟩
    go_wp2_with fail
    go_loopw [12] (fun s12 wr => ∃ k : Nat, k ≤ n ∧ s12 = .int .i64 (k : Int) ∧ (∀ a, a < k → sg p a ≠ r) ∧ wr = w1) (fun i _ => n - (RowKit.intOf i).toNat)
    case atStart => exact ⟨0, Nat.zero_le _, rfl, fun a h => absurd h (Nat.not_lt_zero a), rfl⟩
    case round =>
      obtain ⟨k, hk, rfl, hno, rfl⟩ := hrel
      have HO := Hid.mk' hno
      clear hno
      by_cases hlt : k < n
      · have hb : k < 256 := by omega
        by_cases he : sg p k = r
        · have e : R = some k := HF.out k hlt he HO.out
          subst e
          have HK := Hid.mk' (HS.out k hb)
          rw [he] at HK
          clear HF HN he HS
          have k255 : (k : Int) ≤ 255 := by omega
          go_wp2_with fail
          refine HK.out.mono ?_
          rintro e w2 ⟨rfl, rfl⟩
          go_wp2
          go_ret2
          exact ⟨rfl, rfl⟩
        · have HK := Hid.mk' (HS.out k hb)
          have HO2 : Hid (∀ a, a < k + 1 → sg p a ≠ r) := fun a ha => by
            by_cases e : a = k
            · subst e; exact he
            · exact HO.out a (by omega)
          clear HF HN HS HO
          generalize sg p k = x at *
          go_wp2_with fail
          refine HK.out.mono ?_
          rintro e w2 ⟨rfl, rfl⟩
          go_wp2
          go_roundw
          case rel => exact ⟨k + 1, by omega, by go_num, HO2.out, trivial⟩
          case measure => simp [RowKit.intOf]; omega
      · obtain rfl : k = n := by omega
        have e : R = none := HN.out HO.out
        subst e
        clear HF HN HS HO
        go_wp2
        go_ret2
        exact ⟨rfl, rfl⟩

def bcells (l : List UInt8) : List Value := l.map fun b => .int .u8 (b.toNat : Int)
theorem bcells_length (l : List UInt8) : (bcells l).length = l.length := by simp [bcells]
theorem bcells_one (l : List UInt8) : ∀ u ∈ bcells l, u.oneCell' = true := by
  intro u hu
  obtain ⟨c, _, rfl⟩ := List.mem_map.1 hu
  rfl
theorem bcells_app (a b : List UInt8) : bcells (a ++ b) = bcells a ++ bcells b := by simp [bcells]
def icells (l : List Int) : List Value := l.map fun c => .int .i64 c
theorem icells_length (l : List Int) : (icells l).length = l.length := by simp [icells]
theorem icells_one (l : List Int) : ∀ u ∈ icells l, u.oneCell' = true := by
  intro u hu
  obtain ⟨c, _, rfl⟩ := List.mem_map.1 hu
  rfl
theorem icells_app (a b : List Int) : icells (a ++ b) = icells a ++ icells b := by simp [icells]
theorem infoByte : (Tryd.prog.info? 5).map (fun i => (i.zero, i.size, i.bytes)) = some (some (.int .u8 0), 1, 1) := by kernel_rfl
theorem infoInt : (Tryd.prog.info? 3).map (fun i => (i.zero, i.size, i.bytes)) = some (some (.int .i64 0), 1, 8) := by kernel_rfl
theorem info_parts {P : Program} {t : TypeId} {z : Option Value} {s b : Nat} (h : (P.info? t).map (fun i => (i.zero, i.size, i.bytes)) = some (z, s, b)) : ∃ i, P.info? t = some i ∧ i.zero = z ∧ i.size = s ∧ i.bytes = b := by
  cases hi : P.info? t with
  | none => rw [hi] at h; simp at h
  | some i =>
    rw [hi] at h
    simp only [Option.map_some, Option.some.injEq, Prod.mk.injEq] at h
    exact ⟨i, rfl, h.1, h.2.1, h.2.2⟩
/-- bytes that the call owns from a block on -/
def OwnB (w : World) (base : Nat) (v : Value) (l : List UInt8) : Prop := OwnR w base 5 1 v l.length (bcells l)
theorem OwnB.nil (w : World) (base : Nat) : OwnB w base (.slice none 0 0) [] := OwnR.nil _ _ _ _
/-- ints that the call owns from a block on -/
def OwnI (w : World) (base : Nat) (v : Value) (l : List Int) : Prop := OwnR w base 3 1 v l.length (icells l)
theorem OwnI.nil (w : World) (base : Nat) : OwnI w base (.slice none 0 0) [] := OwnR.nil _ _ _ _
theorem keptBy {w w' : World} {base : Nat} {e : TypeId} {size : Nat} {v : Value} {n : Nat} {xs : List Value} (h : OwnR w base e size v n xs) (hb : Below w.heap.size w w') : OwnR w' base e size v n xs :=
  h.keptAt fun k hk => hb.block k (h.lt k hk).2
theorem OwnI.below {w w' : World} {base : Nat} {v : Value} {l : List Int} (h : OwnI w base v l) (hb : Below w.heap.size w w') : OwnI w' base v l := keptBy h hb
theorem OwnB.below {w w' : World} {base : Nat} {v : Value} {l : List UInt8} (h : OwnB w base v l) (hb : Below w.heap.size w w') : OwnB w' base v l := keptBy h hb
theorem bytes_append (a b : List UInt8) : (⟨a.toArray⟩ ++ ⟨b.toArray⟩ : ByteArray) = ⟨(a ++ b).toArray⟩ := by
  apply ByteArray.ext
  simp
theorem size_mk (l : List UInt8) : (⟨l.toArray⟩ : ByteArray).size = l.length := by simp [ByteArray.size]
theorem get_mk (l : List UInt8) : ∀ k (h : k < l.length) (h2 : k < (⟨l.toArray⟩ : ByteArray).size), (⟨l.toArray⟩ : ByteArray)[k]'h2 = l[k]'h := fun _ _ _ => rfl

theorem fold_push (l : List UInt8) : ∀ s : ByteArray, ((l.map fun b => ((b.toNat : Nat) : Int)).foldl (fun r n => r.push (UInt8.ofNat n.toNat)) s) = ⟨(s.data.toList ++ l).toArray⟩ := by
  induction l with
  | nil => intro s; simp
  | cons a l ih =>
    intro s
    rw [List.map_cons, List.foldl_cons, ih]
    congr 1
    simp [ByteArray.push]

theorem run_str {w : World} {base : Nat} {v : Value} {l : List UInt8} (h : OwnB w base v l) :
    (convert 45 9 v).run Tryd.prog w = .ok (.string ⟨l.toArray⟩) w := by
  unfold OwnB at h
  rcases h.form with ⟨rfl, h0⟩ | ⟨g, cap, rfl, _⟩
  · have : l = [] := List.length_eq_zero_iff.1 h0
    subst this
    rw [run_convert_bytes_string _ _ _ _ _ _ _ Tryd.underlying45 Tryd.underlying5 Tryd.underlying9]
    simp [Conv.bytesToString, Sem.run_pure]
    rfl
  · rw [run_convert_bytes_string _ _ _ _ _ _ _ Tryd.underlying45 Tryd.underlying5 Tryd.underlying9]
    have hl := run_loadCells_list (P := Tryd.prog) w ⟨g, 0, none⟩ (bcells l) (fun j u hu => h.cells (g := g) rfl j u hu)
    have e : (bcells l).length = l.length := by simp [bcells]
    rw [e] at hl
    have e2 : bcells l = (l.map fun b => ((b.toNat : Nat) : Int)).map (Value.int .u8) := by simp [bcells]
    rw [e2] at hl
    rw [run_bytesToString _ _ _ _ _ hl, fold_push]
    rfl

/-- append(v, bytes that were just laid): v owned -/
theorem wpList_append_b (w : World) {ops : Array Oper} {rest : List Oper} {o : Oper} {a : Act} {Q : Exit → Act → World → Prop} (hwd : Region.wanted o (yielded ops a.tmps) = true) (s x : Operand)
    (ho : o.op = .call { callee := .builtin .append, args := #[s, x], argTypes := #[45, 45] })
    (base : Nat) (v : Value) (l m : List UInt8) (hs : a.eval s = v) (hown : OwnB w base v l) (ws : Array Value) (hws : ws = (bcells m).toArray) (k c : Nat) (hx : a.eval x = .slice (some ⟨w.heap.size, 0, none⟩) k c) (hk : k = m.length) (hm : 0 < m.length) (hb : base ≤ w.heap.size) (hn : l.length + m.length ≤ 100000000000000)
    (h : ∀ v' w', OwnB w' base v' (l ++ m) → (∀ B W, B ≤ base → Below B W w → Below B W w') → wpList Tryd.prog ops Q rest (a.put o.dst v') w') : wpList Tryd.prog ops Q (o :: rest) a (w.alloc (.cells ws 5)) := by
  obtain ⟨i0, hi, hz0, hz1, hz2⟩ := info_parts infoByte
  unfold OwnB at hown h
  subst hws hk
  have hown' : OwnR (w.alloc (.cells (bcells m).toArray 5)) base 5 1 v l.length (bcells l) := hown.keptAt fun k hk => Below.heap_alloc _ _ _ (hown.lt k hk).2
  obtain ⟨g, c2, w', a1, a2, a3, _, _⟩ := run_append_R (P := Tryd.prog) (w.alloc (.cells (bcells m).toArray 5)) 45 o.type base 5 i0 (.int .u8 0) 1 1 Tryd.underlying45 hi hz0 hz1 hz2 rfl (by decide) v l.length (bcells l) hown' ⟨w.heap.size, 0, none⟩ m.length c (bcells m) (by simp [bcells])
    (fun j u hu => World.news_of_block (MapKept.heap_alloc w (.cells (bcells m).toArray 5)).1 j u (by simpa using hu)) (bcells_one m) hm (by unfold maxLen; omega) (by omega) (by simp; omega) _ rfl
  refine wpList_step fun K hK => ?_
  rw [if_pos hwd]
  unfold Oper.wp execOp
  simp only [ho, resolve, invoke, builtin, Sem.run_bind, Sem.run_pure, Result.andThen_ok, List.map_toArray, List.map_cons, List.map_nil, hs, hx, a1]
  refine hK _ _ (h _ w' ?_ ?_)
  · rw [List.length_append, bcells_app]; exact a2
  · exact fun B W hB hBW => (hBW.alloc (by omega) _).grown a3 (by simp; omega) (fun k hk => by have := (hown.lt k hk).1; omega)

/-- append(v, ints that were just laid): v owned -/
theorem wpList_append_i (w : World) {ops : Array Oper} {rest : List Oper} {o : Oper} {a : Act} {Q : Exit → Act → World → Prop} (hwd : Region.wanted o (yielded ops a.tmps) = true) (s x : Operand)
    (ho : o.op = .call { callee := .builtin .append, args := #[s, x], argTypes := #[27, 27] })
    (base : Nat) (v : Value) (l m : List Int) (hs : a.eval s = v) (hown : OwnI w base v l) (ws : Array Value) (hws : ws = (icells m).toArray) (k c : Nat) (hx : a.eval x = .slice (some ⟨w.heap.size, 0, none⟩) k c) (hk : k = m.length) (hm : 0 < m.length) (hb : base ≤ w.heap.size) (hn : l.length + m.length ≤ 17592186044416)
    (h : ∀ v' w', OwnI w' base v' (l ++ m) → (∀ B W, B ≤ base → Below B W w → Below B W w') → wpList Tryd.prog ops Q rest (a.put o.dst v') w') : wpList Tryd.prog ops Q (o :: rest) a (w.alloc (.cells ws 3)) := by
  obtain ⟨i0, hi, hz0, hz1, hz2⟩ := info_parts infoInt
  unfold OwnI at hown h
  subst hws hk
  have hown' : OwnR (w.alloc (.cells (icells m).toArray 3)) base 3 1 v l.length (icells l) := hown.keptAt fun k hk => Below.heap_alloc _ _ _ (hown.lt k hk).2
  obtain ⟨g, c2, w', a1, a2, a3, _, _⟩ := run_append_R (P := Tryd.prog) (w.alloc (.cells (icells m).toArray 3)) 27 o.type base 3 i0 (.int .i64 0) 1 8 Tryd.underlying27 hi hz0 hz1 hz2 rfl (by decide) v l.length (icells l) hown' ⟨w.heap.size, 0, none⟩ m.length c (icells m) (by simp [icells])
    (fun j u hu => World.news_of_block (MapKept.heap_alloc w (.cells (icells m).toArray 3)).1 j u (by simpa using hu)) (icells_one m) hm (by unfold maxLen; omega) (by omega) (by simp; omega) _ rfl
  refine wpList_step fun K hK => ?_
  rw [if_pos hwd]
  unfold Oper.wp execOp
  simp only [ho, resolve, invoke, builtin, Sem.run_bind, Sem.run_pure, Result.andThen_ok, List.map_toArray, List.map_cons, List.map_nil, hs, hx, a1]
  refine hK _ _ (h _ w' ?_ ?_)
  · rw [List.length_append, icells_app]; exact a2
  · exact fun B W hB hBW => (hBW.alloc (by omega) _).grown a3 (by simp; omega) (fun k hk => by have := (hown.lt k hk).1; omega)

/-- the runes of bytes -/
def rdP (p : Int) (l : List UInt8) : List Int := l.map fun b => sg p b.toNat
theorem rdP_length (p : Int) (l : List UInt8) : (rdP p l).length = l.length := by simp [rdP]

def RState (w : World) (p : Int) (l : List UInt8) (s6 s13 : Value) (wr : World) : Prop :=
  ∃ k : Nat, k ≤ l.length ∧ s13 = .int .i64 (k : Int) ∧ OwnI wr w.heap.size s6 (rdP p (l.take k)) ∧ Below w.heap.size w wr

set_option maxHeartbeats 4000000 in
set_option maxRecDepth 100000 in
theorem Read_any (p : Int) (l : List UInt8) (w : World) (hT : Tab w) (hl : l.length ≤ 17592186044416) :
    Calls Tryd.prog 12 #[.int .i64 p, .string ⟨l.toArray⟩] w fun e w' => ∃ v, e = .returned (.tuple #[v, .int .i64 (if isP p = true then 0 else 6)]) ∧ OwnI w' w.heap.size v (if isP p = true then rdP p l else []) ∧ Below w.heap.size w w' := by
  have HP := Hid.mk' (isPage_any p w)
  cases h : isP p with
  | false =>
    rw [h] at HP
    rw [if_neg (by decide), if_neg (by decide)]
    generalize (⟨l.toArray⟩ : ByteArray) = S at *
    go_enter Tryd.func12, Tryd.ntmps12
    go_wp2_with fail
    refine HP.out.mono ?_
    rintro e w1 ⟨rfl, rfl⟩
    go_wp2
    go_ret2
    exact ⟨_, rfl, OwnI.nil _ _, Below.refl _ _⟩
  | true =>
    rw [h] at HP
    rw [if_pos rfl, if_pos rfl]
    have HS : Hid (∀ wr, Below w.heap.size w wr → ∀ b : UInt8, Calls Tryd.prog 19 #[.int .i64 p, .int .i64 (b.toNat : Int)] wr fun e w' => e = .returned (.int .i64 (sg p b.toNat)) ∧ w' = wr) := fun wr hb b => sign_any p b.toNat wr b.toNat_lt (hT.below hb)
    have HS0 : Hid (RState w p l (.slice none 0 0) (.int .i64 0) w) := ⟨0, Nat.zero_le _, rfl, OwnI.nil _ _, Below.refl _ _⟩
    have hsz := size_mk l
    have HG := Hid.mk' (get_mk l)
    generalize (⟨l.toArray⟩ : ByteArray) = S at *
    clear hT
    go_enter Tryd.func12, Tryd.ntmps12
    go_wp2_with fail
    refine HP.out.mono ?_
    rintro e w1 ⟨rfl, rfl⟩
    go_wp2_with fail
    go_loopw [6, 13] (fun s6 s13 wr => RState w1 p l s6 s13 wr) (fun _ i _ => l.length - (RowKit.intOf i).toNat)
    case atStart => exact HS0.out
    case round =>
      obtain ⟨k, hk, rfl, ho, hbl⟩ := hrel
      clear HS0
      have HB := Hid.mk' hbl
      have hswr := hbl.size
      by_cases hlt : k < l.length
      · have hsb := HG.out k hlt (by omega)
        have HK := Hid.mk' (HS.out wr hbl l[k])
        have hsn : rdP p (l.take (k + 1)) = rdP p (l.take k) ++ [sg p l[k].toNat] := map_snoc _ l k hlt
        have hln : (rdP p (l.take k)).length ≤ k := by rw [rdP_length]; exact List.length_take_le k l
        have HSN : Hid (∀ w' v', OwnI w' w1.heap.size v' (rdP p (l.take k) ++ [sg p l[k].toNat]) → OwnI w' w1.heap.size v' (rdP p (l.take (k + 1)))) := fun w' v' h => by rw [hsn]; exact h
        clear hsn hbl
        generalize sg p l[k].toNat = x at *
        have HW : Hid (#[.int .i64 x] = (icells [x]).toArray) := Hid.mk' rfl
        have hb := l[k].toNat_lt
        have hsb2 : ((S[k]'(by omega)).toNat : Int) = (l[k].toNat : Int) := by rw [hsb]
        clear hsb
        have hb2 : (l[k].toNat : Int) < 256 := by omega
        have hb3 : 0 ≤ (l[k].toNat : Int) := by omega
        clear hb
        generalize (l[k].toNat : Int) = y at *
        generalize rdP p (l.take k) = X at *
        go_wp2_with fail
        refine HK.out.mono ?_
        rintro e w2 ⟨rfl, rfl⟩
        go_wp2_with (at_builtin; refine wpList_append_i _ (by rfl) _ _ rfl w1.heap.size u6 X [x] rfl ho _ HW.out _ _ rfl rfl (by simp) hswr ?c1 ?_)
        case c1 => simp; omega
        intro v' w' ho' hbl
        have HO := Hid.mk' (HSN.out w' v' ho')
        have HB2 := Hid.mk' (hbl _ _ (Nat.le_refl _) HB.out)
        clear ho' hbl ho
        go_wp2
        go_roundw
        case rel => exact ⟨k + 1, by omega, by go_num, HO.out, HB2.out⟩
        case measure => simp [RowKit.intOf]; omega
      · obtain rfl : k = l.length := by omega
        rw [List.take_length] at ho
        have HO := Hid.mk' ho
        clear ho hbl
        go_wp2
        go_ret2
        exact ⟨_, rfl, HO.out, HB.out⟩
end Go.Proofs.YtmniifmgliklnaaDoor.G
