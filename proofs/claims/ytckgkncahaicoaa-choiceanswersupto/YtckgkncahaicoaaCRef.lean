/-
  Contracts of farref.Between, Bytes (at most 100 bytes), Name, Like; conditions: as each names them.
-/
import Derived.Test.YtckgkncahaicoaaCRead
import Derived.Laws.MakeOwn
import Derived.Lib.ConvBytes
namespace Go.Proofs.Ytckgkncahaicoaa.C
open Go.RowKit Go.Lib Go.Proofs.Ytckgkncahaicoaa Go.Proofs.Ytckgkncahaicoaa.W Go.Proofs.Ytckgkncahaicoaa.Q

def btw (x a b : Int) : Bool := decide (a ≤ x ∧ x ≤ b)
set_option maxHeartbeats 1000000 in
theorem Between_any (x a b : Int) (w : World) : Calls Try.prog 18 #[.int .i64 x, .int .i64 a, .int .i64 b] w fun e w' => e = .returned (.bool (btw x a b)) ∧ w' = w := by
  unfold btw
  by_cases h1 : a ≤ x
  · by_cases h2 : x ≤ b
    · rw [decide_eq_true ⟨h1, h2⟩]
      go_enter Try.func18, Try.ntmps18
      go_wp2
      go_ret
      exact ⟨rfl, rfl⟩
    · rw [decide_eq_false (fun h => h2 h.2)]
      go_enter Try.func18, Try.ntmps18
      go_wp2
      go_ret
      exact ⟨rfl, rfl⟩
  · rw [decide_eq_false (fun h => h1 h.1)]
    go_enter Try.func18, Try.ntmps18
    go_wp2
    go_ret
    exact ⟨rfl, rfl⟩

def icells (l : List UInt8) : List Value := l.map fun b => .int .i64 (b.toNat : Int)
theorem OwnB.box {w : World} {g : Nat} {l : List UInt8} (h : Box w g 5 (bcells l)) (hl : l.length ≤ 1000000) : OwnB w 0 (.slice (some ⟨g, 0, none⟩) l.length l.length) l :=
  ⟨by simp [bcells], .inr ⟨g, l.length, _, (0, 0), rfl, Nat.zero_le _, h, .inl rfl, Nat.le_refl _, by unfold maxLen; omega, by simp [bcells], by simp [bcells, List.take_of_length_le]⟩⟩
theorem take_set (l : List Value) (k : Nat) (v : Value) (h : k < l.length) : (l.set k v).take (k + 1) = l.take k ++ [v] := by
  have e : (l.set k v).take k = l.take k := by
    apply List.ext_getElem?
    intro i
    by_cases hi : i < k
    · simp [hi, show k ≠ i by omega]
    · simp [List.getElem?_take, hi]
  rw [List.take_succ_eq_append_getElem (by simpa using h), e]
  simp

def YState (w : World) (N : List UInt8) (i : Value) (wr : World) : Prop :=
  ∃ (k : Nat) (arr : List Value), k ≤ N.length ∧ i = .int .i64 k ∧ Box wr w.heap.size 5 arr ∧ arr.length = N.length ∧ arr.take k = bcells (N.take k) ∧ Below w.heap.size w wr

set_option maxHeartbeats 8000000 in
set_option maxRecDepth 100000 in
theorem Bytes_any (N : List UInt8) (g c : Nat) (w : World) (hn : N.length ≤ 100) (hc : ∀ k (h : k < N.length), w.cell? ⟨g, k, none⟩ = some (.int .i64 (N[k].toNat : Int))) (hg : g < w.heap.size) :
    Calls Try.prog 21 #[.slice (some ⟨g, 0, none⟩) N.length c] w fun e w' => e = .returned (.string ⟨N.toArray⟩) ∧ Below w.heap.size w w' := by
  obtain ⟨i0, hi, hz0, hz1, hz2⟩ := info_parts infoByte
  have hmk := run_makeSlice w 46 5 i0 (.int .u8 0) Try.underlying46 hi hz0 .i64 .i64 N.length N.length (by omega) (by omega) (by rw [hz1]; simp; omega) (by rw [hz2]; simp; omega) (by omega)
  rw [hz1] at hmk
  simp only [Int.toNat_natCast, Nat.mul_one] at hmk
  have HC := Hid.mk' hc
  have HS : Hid (YState w N (.int .i64 0) (w.alloc (.cells (madeCells (Value.int .u8 0).cells N.length) 5))) :=
    ⟨0, (madeCells (Value.int .u8 0).cells N.length).toList, Nat.zero_le _, rfl, by have := Box.new w 5 (madeCells (Value.int .u8 0).cells N.length).toList; rwa [Array.toArray_toList] at this, by simpa using size_madeCells _ _, by simp [bcells], (Below.refl _ _).alloc (Nat.le_refl _) _⟩
  generalize madeCells (Value.int .u8 0).cells N.length = arr0 at *
  clear hc
  go_enter Try.func21, Try.ntmps21
  go_wp2_with fail
  go_loopw [11] (fun i wr => YState w N i wr) (fun i _ => N.length - (RowKit.intOf i).toNat)
  case atStart => exact HS.out
  case round =>
    obtain ⟨k, arr, hk, rfl, hbox, hsz, htk, hbl⟩ := hrel
    clear HS hmk
    have HB := Hid.mk' hbl
    have HK := Hid.mk' hbox
    have HT := Hid.mk' htk
    clear htk
    by_cases hl : k < N.length
    · have h1 : wr.cell? ⟨g, k, none⟩ = some (.int .i64 (N[k].toNat : Int)) := (hbl.cell (p := ⟨g, k, none⟩) hg).trans (HC.out k hl)
      have h2 : ∃ x, wr.cell? ⟨w.heap.size, k, none⟩ = some x := ⟨_, hbox.cell (List.getElem?_eq_getElem (show k < arr.length by omega))⟩
      have h3 := hbox.frozen
      obtain ⟨x, h2⟩ := h2
      have hbn := N[k].toNat_lt
      have q1 : (0 : Int) ≤ (N[k].toNat : Int) := by omega
      have q2 : (N[k].toNat : Int) ≤ 255 := by omega
      have hts : N.take (k + 1) = N.take k ++ [N[k]] := List.take_succ_eq_append_getElem hl
      have HTS := Hid.mk' (show bcells (N.take (k + 1)) = bcells (N.take k) ++ [.int .u8 (N[k].toNat : Int)] by unfold bcells; rw [hts, List.map_append]; rfl)
      clear hbl hbox hbn hts
      generalize (N[k].toNat : Int) = y at *
      go_wp2
      go_roundw
      case rel =>
        refine ⟨k + 1, arr.set k (.int .u8 y), by omega, by go_num, HK.out.setCell _ _, by simpa using hsz, ?_, HB.out.setCell (by simp) _⟩
        rw [HTS.out, ← HT.out]
        exact take_set _ _ _ (by omega)
      case measure => simp [RowKit.intOf]; omega
    · obtain rfl : k = N.length := by omega
      have e : arr = bcells N := by
        have := HT.out
        rwa [List.take_length, List.take_of_length_le (by omega)] at this
      subst e
      have hstr : (convert 46 9 (.slice (some ⟨w.heap.size, 0, none⟩) N.length N.length)).run Try.prog wr = .ok (.string ⟨N.toArray⟩) wr := run_str (OwnB.box hbox (by omega))
      clear hbl hbox
      go_wp2
      go_ret
      exact ⟨rfl, HB.out⟩

theorem Bytes_ints (N : List UInt8) (w : World) (hn : N.length ≤ 100) :
    Calls Try.prog 21 #[.slice (some ⟨w.heap.size, 0, none⟩) N.length N.length] (w.alloc (.cells (icells N).toArray 3)) fun e w' => e = .returned (.string ⟨N.toArray⟩) ∧ Below w.heap.size w w' := by
  have H := Bytes_any N w.heap.size N.length (w.alloc (.cells (icells N).toArray 3)) hn (fun k h => (Box.new w 3 (icells N)).cell (by simp [icells, h])) (by simp)
  refine H.mono ?_
  rintro e w' ⟨rfl, hb⟩
  exact ⟨rfl, ((Below.refl _ _).alloc (Nat.le_refl _) _).trans (hb.mono (by simp))⟩



theorem below_bytes0 (w : World) (e : TypeId) (s : ByteArray) : Below w.heap.size w (bytesWorld w e s) :=
  ⟨rfl, rfl, rfl, by rw [bytesWorld_size]; omega, fun k hk => bytesWorld_at_old w e s k hk⟩
theorem btw_sign (b : UInt8) : btw (b.toNat : Int) 33 126 = isSign b := decide_eq_decide.2 (by omega)

set_option maxHeartbeats 1000000 in
theorem Name1_any (b : UInt8) (w : World) : Calls Try.prog 32 #[.int .u8 (b.toNat : Int)] w fun e w' => e = .returned (.bool (!isSign b)) ∧ w' = w := by
  have H := Hid.mk' (Between_any (b.toNat : Int) 33 126 w)
  rw [btw_sign] at H
  have x0 : (0 : Int) ≤ (b.toNat : Int) := by omega
  have x1 : (b.toNat : Int) < 256 := by have := b.toNat_lt; omega
  generalize isSign b = s at *
  generalize (b.toNat : Int) = y at *
  cases s with
  | true =>
    go_enter Try.func32, Try.ntmps32
    go_wp2_with fail
    refine H.out.mono ?_
    rintro e w1 ⟨rfl, rfl⟩
    go_wp2
    go_ret
    exact ⟨rfl, rfl⟩
  | false =>
    go_enter Try.func32, Try.ntmps32
    go_wp2_with fail
    refine H.out.mono ?_
    rintro e w1 ⟨rfl, rfl⟩
    go_wp2
    go_ret
    exact ⟨rfl, rfl⟩

theorem bytes_cell (w : World) (e : TypeId) (S : ByteArray) : ∀ k (h : k < S.size), (bytesWorld w e S).cell? ⟨w.heap.size, k, none⟩ = some (.int .u8 (S[k].toNat : Int)) := fun k h => by
  rw [bytesWorld_cell w e S k h, get_data S k h]
  have h' : k < S.data.toList.length := by rw [← size_data]; exact h
  simp only [List.getD, List.getElem?_eq_getElem h', Option.getD_some]
/-- are all its bytes signs? -/
def allSigns (S : ByteArray) : Bool := decide (∀ k (h : k < S.size), isSign S[k] = true)
theorem allSigns_no {S : ByteArray} (k : Nat) (h : k < S.size) (hs : isSign S[k] = false) : allSigns S = false := decide_eq_false (fun hh => by rw [hh k h] at hs; cases hs)

set_option maxHeartbeats 4000000 in
set_option maxRecDepth 100000 in
theorem IndexB_any (S : ByteArray) (b cp : Nat) (w : World) (hcl : ∀ k (h : k < S.size), w.cell? ⟨b, k, none⟩ = some (.int .u8 (S[k].toNat : Int))) (hz : S.size ≤ 1000) :
    Calls Try.prog 39 #[.slice (some ⟨b, 0, none⟩) S.size cp, .func (.func 32) #[] #[]] w fun e w' => ∃ r : Int, e = .returned (.int .i64 r) ∧ Hid ((0 ≤ r ∧ allSigns S = false) ∨ (r = -1 ∧ allSigns S = true)) ∧ w' = w := by
  have HC := Hid.mk' hcl
  have HT : Hid ((∀ k (h : k < S.size), isSign S[k] = true) → allSigns S = true) := fun h => decide_eq_true h
  have HF : Hid (∀ k (h : k < S.size), isSign S[k] = false → allSigns S = false) := fun k h hs => allSigns_no k h hs
  generalize allSigns S = A at *
  clear hcl
  go_enter Try.func39, Try.ntmps39
  go_wp2_with fail
  go_loopw [8] (fun i wr => ∃ k : Nat, k ≤ S.size ∧ i = .int .i64 (k : Int) ∧ wr = w ∧ Hid (∀ j (_ : j < k) (h : j < S.size), isSign S[j] = true)) (fun i _ => S.size - (RowKit.intOf i).toNat)
  case atStart => exact ⟨0, Nat.zero_le _, rfl, rfl, fun j h => absurd h (Nat.not_lt_zero _)⟩
  case round =>
    obtain ⟨k, hk, rfl, hwr, HO⟩ := hrel
    subst hwr
    by_cases hlt : k < S.size
    · have hck := HC.out k hlt
      have H1 := Hid.mk' (Name1_any S[k] wr)
      cases hs : isSign S[k] with
      | true =>
        rw [hs] at H1
        have HO2 : Hid (∀ j (_ : j < k + 1) (h : j < S.size), isSign S[j] = true) := fun j hj h => by
          by_cases e : j = k
          · subst e; exact hs
          · exact HO.out j (by omega) h
        clear hs HO HT HF HC
        rw [Bool.not_true] at H1
        generalize (S[k].toNat : Int) = x at *
        go_wp2_with fail
        refine H1.out.mono ?_
        rintro e w4 ⟨rfl, rfl⟩
        go_wp2
        go_roundw
        case rel => exact ⟨k + 1, by omega, by go_num, trivial, HO2⟩
        case measure => simp [RowKit.intOf]; omega
      | false =>
        rw [hs] at H1
        have e : A = false := HF.out k hlt hs
        subst e
        clear hs HO HT HF HC
        rw [Bool.not_false] at H1
        generalize (S[k].toNat : Int) = x at *
        go_wp2_with fail
        refine H1.out.mono ?_
        rintro e w4 ⟨rfl, rfl⟩
        go_wp2
        go_ret
        exact ⟨(k : Int), rfl, Hid.mk' (by omega), rfl⟩
    · obtain rfl : k = S.size := by omega
      have e : A = true := HT.out (fun j h => HO.out j h h)
      subst e
      clear HO HT HF HC
      go_wp2
      go_ret
      exact ⟨-1, rfl, Hid.mk' rfl, rfl⟩

set_option maxHeartbeats 1000000 in
theorem ContB_any (S : ByteArray) (b cp : Nat) (w : World) (hcl : ∀ k (h : k < S.size), w.cell? ⟨b, k, none⟩ = some (.int .u8 (S[k].toNat : Int))) (hz : S.size ≤ 1000) :
    Calls Try.prog 31 #[.slice (some ⟨b, 0, none⟩) S.size cp, .func (.func 32) #[] #[]] w fun e w' => e = .returned (.bool (!allSigns S)) ∧ w' = w := by
  have H1 := Hid.mk' (IndexB_any S b cp w hcl hz)
  clear hcl
  generalize allSigns S = A at *
  generalize S.size = n at *
  cases A with
  | true =>
    go_enter Try.func31, Try.ntmps31
    go_wp2_with fail
    refine H1.out.mono ?_
    rintro e w1 ⟨r, rfl, h, rfl⟩
    obtain rfl : r = -1 := by rcases h.out with ⟨_, h⟩ | ⟨h, _⟩ <;> simp_all
    go_wp2
    go_ret
    exact ⟨rfl, rfl⟩
  | false =>
    go_enter Try.func31, Try.ntmps31
    go_wp2_with fail
    refine H1.out.mono ?_
    rintro e w1 ⟨r, rfl, h, rfl⟩
    have h0 : 0 ≤ r := by rcases h.out with ⟨h, _⟩ | ⟨_, h⟩ <;> simp_all
    clear h
    go_wp2
    go_ret
    exact ⟨rfl, rfl⟩

set_option maxHeartbeats 4000000 in
theorem Name_any (S : ByteArray) (w : World) : Calls Try.prog 19 #[.string S] w fun e w' => e = .returned (.bool (nameOk S)) ∧ Below w.heap.size w w' := by
  have HT := Hid.mk' (Between_any (S.size : Int) 1 40 w)
  have hno : nameOk S = (btw (S.size : Int) 1 40 && allSigns S) := by
    unfold nameOk
    congr 1
    exact decide_eq_decide.2 (by omega)
  rw [hno]
  cases hb : btw (S.size : Int) 1 40 with
  | false =>
    rw [hb] at HT
    rw [Bool.false_and]
    go_enter Try.func19, Try.ntmps19
    go_wp2_with fail
    refine HT.out.mono ?_
    rintro e w1 ⟨rfl, rfl⟩
    go_wp2
    go_ret
    exact ⟨rfl, Below.refl _ _⟩
  | true =>
    have hz := of_decide_eq_true hb
    rw [hb] at HT
    rw [Bool.true_and]
    have hcv := Lib.run_convert_string_bytes (P := Try.prog) w 9 46 5 S Try.underlying9 Try.underlying46 Try.underlying5
    have HB := Hid.mk' (below_bytes0 w 5 S)
    have hge := grownCap_ge w S.size 0 5
    have H1 := Hid.mk' (ContB_any S w.heap.size (grownCap w S.size 0 5) (bytesWorld w 5 S) (bytes_cell w 5 S) (by omega))
    generalize bytesWorld w 5 S = w1 at *
    generalize grownCap w S.size 0 5 = C at *
    generalize allSigns S = A at *
    cases A with
    | true =>
      rw [Bool.not_true] at H1
      go_enter Try.func19, Try.ntmps19
      go_wp2_with fail
      refine HT.out.mono ?_
      rintro e w2 ⟨rfl, rfl⟩
      go_wp2_with fail
      refine H1.out.mono ?_
      rintro e w3 ⟨rfl, rfl⟩
      go_wp2
      go_ret
      exact ⟨rfl, HB.out⟩
    | false =>
      rw [Bool.not_false] at H1
      go_enter Try.func19, Try.ntmps19
      go_wp2_with fail
      refine HT.out.mono ?_
      rintro e w2 ⟨rfl, rfl⟩
      go_wp2_with fail
      refine H1.out.mono ?_
      rintro e w3 ⟨rfl, rfl⟩
      go_wp2
      go_ret
      exact ⟨rfl, HB.out⟩

theorem cap_iff (a b : UInt8) : cap a = cap b ↔ (a.toNat : Int) = (b.toNat : Int) ∨ (max (a.toNat : Int) (b.toNat : Int) - min (a.toNat : Int) (b.toNat : Int) = 32 ∧ btw (max (a.toNat : Int) (b.toNat : Int)) 97 122 = true) := by
  have ha := cap_all a
  have hb := cap_all b
  have hh : cap a = cap b ↔ (cap a).toNat = (cap b).toNat := ⟨fun h => by rw [h], fun h => UInt8.toNat_inj.1 h⟩
  rw [hh, ha, hb]
  unfold btw
  rw [decide_eq_true_iff]
  split <;> split <;> omega

set_option maxHeartbeats 4000000 in
set_option maxRecDepth 100000 in
theorem Like_any (a b : ByteArray) (w : World) (hz : a.size ≤ 9223372036854775807) : Calls Try.prog 26 #[.string a, .string b] w fun e w' => e = .returned (.bool (like a b)) ∧ ∃ n, w' = w.drewN n := by
  by_cases hs : a.size = b.size
  · have HT : Hid ((∀ k (h : k < a.size) (h2 : k < b.size), cap a[k] = cap b[k]) → like a b = true) := fun h => like_yes hs h
    have HF : Hid (∀ k (h : k < a.size) (h2 : k < b.size), cap a[k] ≠ cap b[k] → like a b = false) := fun k h h2 hn => like_no k h h2 hn
    have HC := Hid.mk' Between_any
    have hs' : ((a.size : Int) == (b.size : Int)) = true := by rw [hs]; simp
    generalize like a b = R at *
    go_enter Try.func26, Try.ntmps26
    go_wp2_with fail
    go_loopw [15] (fun s15 wr => ∃ k q : Nat, k ≤ a.size ∧ s15 = .int .i64 (k : Int) ∧ Hid (∀ j (_ : j < k) (h : j < a.size) (h2 : j < b.size), cap a[j] = cap b[j]) ∧ wr = w.drewN q) (fun i _ => a.size - (RowKit.intOf i).toNat)
    case atStart => exact ⟨0, 0, Nat.zero_le _, rfl, fun a h => absurd h (Nat.not_lt_zero a), rfl⟩
    case round =>
      obtain ⟨k, q, hk, rfl, HO, rfl⟩ := hrel
      have HD : Hid (∀ n, ∃ q', (w.drewN q).drewN n = w.drewN q') := fun n => ⟨_, World.drewN_drewN w q n⟩
      generalize w.drewN q = W at *
      by_cases hlt : k < a.size
      · have hlt2 : k < b.size := by omega
        have k1 : (k : Int) < (a.size : Int) := by omega
        have k2 : (k : Int) < (b.size : Int) := by omega
        have hci := cap_iff a[k] b[k]
        have HO2 : Hid (cap a[k] = cap b[k] → ∀ j (_ : j < k + 1) (h : j < a.size) (h2 : j < b.size), cap a[j] = cap b[j]) := fun he j hj h h2 => by
          by_cases e : j = k
          · subst e; exact he
          · exact HO.out j (by omega) h h2
        have HFk := Hid.mk' (HF.out k hlt hlt2)
        have xa0 : (0 : Int) ≤ (a[k].toNat : Int) := by omega
        have xb0 : (0 : Int) ≤ (b[k].toNat : Int) := by omega
        have xa1 : (a[k].toNat : Int) < 256 := by have := a[k].toNat_lt; omega
        have xb1 : (b[k].toNat : Int) < 256 := by have := b[k].toNat_lt; omega
        clear HT HF HO
        generalize hca : (a[k].toNat : Int) = x at *
        generalize hcb : (b[k].toNat : Int) = y at *
        obtain ⟨M, hM⟩ : ∃ M, max x y = M := ⟨_, rfl⟩
        obtain ⟨m, hm⟩ : ∃ m, min x y = m := ⟨_, rfl⟩
        have hM0 : 0 ≤ M ∧ M < 256 := by omega
        have hm0 : 0 ≤ m ∧ m < 256 := by omega
        rw [hM, hm] at hci
        have H1 := Hid.mk' (HC.out M 97 122)
        by_cases hxy : x = y
        · have HO3 := Hid.mk' (HO2.out (hci.2 (.inl hxy)))
          have hxe : (x == y) = true := by rw [hxy]; simp
          clear HO2 HFk hci HC H1 hM hm
          go_wp2_with fail
          go_quiet (fail)
          go_wp2
          go_roundw
          case rel => obtain ⟨q', e⟩ := HD.out nq; exact ⟨k + 1, q', by omega, by go_num, HO3, e⟩
          case measure => simp [RowKit.intOf]; omega
        · have hxe : (x == y) = false := beq_false_of_ne hxy
          by_cases h32 : M - m = 32
          · have h32' : (M - m == 32) = true := by rw [h32]; rfl
            cases hb : btw M 97 122 with
            | true =>
              rw [hb] at H1
              have HO3 := Hid.mk' (HO2.out (hci.2 (.inr ⟨h32, hb⟩)))
              clear HO2 HFk hci HC hb
              go_wp2_with fail
              go_quiet (fail)
              go_wp2_with fail
              refine (H1.out _).mono ?_
              rintro e w4 ⟨rfl, rfl⟩
              go_wp2
              go_roundw
              case rel => obtain ⟨q', e⟩ := HD.out nq; exact ⟨k + 1, q', by omega, by go_num, HO3, e⟩
              case measure => simp [RowKit.intOf]; omega
            | false =>
              rw [hb] at H1
              have e : R = false := HFk.out (fun h => by
                rcases hci.1 h with h | ⟨_, h⟩
                · exact hxy h
                · rw [hb] at h; cases h)
              subst e
              clear HO2 HFk hci HC hb
              go_wp2_with fail
              go_quiet (fail)
              go_wp2_with fail
              refine (H1.out _).mono ?_
              rintro e w4 ⟨rfl, rfl⟩
              go_wp2
              go_ret
              obtain ⟨q', e⟩ := HD.out nq
              exact ⟨rfl, q', e⟩
          · have h32' : (M - m == 32) = false := beq_false_of_ne h32
            have e : R = false := HFk.out (fun h => by
              rcases hci.1 h with h | ⟨h, _⟩
              · exact hxy h
              · exact h32 h)
            subst e
            clear HO2 HFk hci HC H1
            go_wp2_with fail
            go_quiet (fail)
            go_wp2
            go_ret
            obtain ⟨q', e⟩ := HD.out nq
            exact ⟨rfl, q', e⟩
      · obtain rfl : k = a.size := by omega
        have e : R = true := HT.out (fun j h h2 => HO.out j h h h2)
        subst e
        clear HT HF HO HC
        go_wp2
        go_ret
        obtain ⟨q', e⟩ := HD.out 0
        exact ⟨rfl, q', e⟩
  · rw [like_size hs]
    have hs' : ((a.size : Int) == (b.size : Int)) = false := by apply beq_false_of_ne; omega
    go_enter Try.func26, Try.ntmps26
    go_wp2
    go_ret
    exact ⟨rfl, 0, rfl⟩
end Go.Proofs.Ytckgkncahaicoaa.C
