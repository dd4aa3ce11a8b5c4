/-
  Contracts of slices.IndexFunc at []string with ToldOf's function, and of farref.ToldOf; conditions: at most 2^44 names, no text longer than an int tells.
-/
import Derived.Test.YtckgkncahaicoaaCTold
import Derived.Test.YtckgkncahaicoaaCRef
import Derived.Deep.RegionHeld3
namespace Go.Proofs.Ytckgkncahaicoaa.C
open Go.RowKit Go.Lib Go.Proofs.Ytckgkncahaicoaa Go.Proofs.Ytckgkncahaicoaa.W Go.Proofs.Ytckgkncahaicoaa.Q

set_option maxHeartbeats 1000000 in
theorem Told1_any (w : World) (y : ByteArray) (p : Nat) (x : UInt8) (s : List UInt8) (hy : y.size ≤ 9223372036854775807) (hsl : s.length + 1 ≤ 9223372036854775807) (hp : w.cell? ⟨p, 0, none⟩ = some (.string (bs (x :: s)))) :
    Calls Try.prog 25 #[.string y, .pointer (some ⟨p, 0, none⟩)] w fun e w' => e = .returned (.bool (like y (bs s))) ∧ ∃ n, w' = w.drewN n := by
  have H1 := Hid.mk' (Like_any y (bs s) w hy)
  have hsz : (bs (x :: s)).size = s.length + 1 := by rw [bs_size]; rfl
  have hx1 : (bs (x :: s)).extract 1 (s.length + 1) = bs s := by rw [← hsz, bs_drop]; rfl
  generalize like y (bs s) = R at *
  generalize bs (x :: s) = D at *
  generalize bs s = S at *
  go_enter Try.func25, Try.ntmps25
  go_wp2_with fail
  refine H1.out.mono ?_
  rintro e w1 ⟨rfl, n, rfl⟩
  go_wp2
  go_ret
  exact ⟨rfl, n, rfl⟩

/-- the place of the first that is like z, as it is told -/
def IdxL (l : List ByteArray) (z : ByteArray) (r : Int) : Prop := (∃ k, ∃ h : k < l.length, r = (k : Int) ∧ firstL l z = some l[k]) ∨ (r = -1 ∧ firstL l z = none)

set_option maxHeartbeats 4000000 in
set_option maxRecDepth 100000 in
theorem IndexS_any (w : World) (v : Value) (l : List ByteArray) (p : Nat) (x : UInt8) (s : List UInt8) (hv : RdS w v l) (hn : l.length ≤ 17592186044416) (hz : ∀ k (h : k < l.length), (l[k]).size ≤ 9223372036854775807) (hsl : s.length + 1 ≤ 9223372036854775807) (hp : w.cell? ⟨p, 0, none⟩ = some (.string (bs (x :: s)))) :
    Calls Try.prog 24 #[v, .func (.func 25) #[] #[.pointer (some ⟨p, 0, none⟩)]] w fun e w' => ∃ r : Int, e = .returned (.int .i64 r) ∧ IdxL l (bs s) r ∧ ∃ n, w' = w.drewN n := by
  have HF : Hid (∀ k (h : k < l.length), like l[k] (bs s) = true → (∀ a (ha : a < k), like l[a] (bs s) = false) → IdxL l (bs s) (k : Int)) := fun k h he hn => .inl ⟨k, h, rfl, firstL_some l (bs s) k h he hn⟩
  have HN : Hid ((∀ k (h : k < l.length), like l[k] (bs s) = false) → IdxL l (bs s) (-1)) := fun h => .inr ⟨rfl, firstL_none l (bs s) h⟩
  have HL : Hid (∀ k (h : k < l.length) q, Calls Try.prog 25 #[.string l[k], .pointer (some ⟨p, 0, none⟩)] (w.drewN q) fun e w' => e = .returned (.bool (like l[k] (bs s))) ∧ ∃ n, w' = (w.drewN q).drewN n) := fun k h q => Told1_any (w.drewN q) l[k] p x s (hz k h) hsl (by rw [World.cell?_drewN]; exact hp)
  obtain ⟨a, c, rfl, hc, hr⟩ := hv
  generalize bs s = S at *
  clear hp
  go_enter Try.func24, Try.ntmps24
  go_wp2_with fail
  go_loopw [8] (fun s8 wr => ∃ k q : Nat, k ≤ l.length ∧ s8 = .int .i64 (k : Int) ∧ Hid (∀ a (_ : a < k) (h : a < l.length), like l[a] S = false) ∧ wr = w.drewN q) (fun i _ => l.length - (RowKit.intOf i).toNat)
  case atStart => exact ⟨0, 0, Nat.zero_le _, rfl, fun a h => absurd h (Nat.not_lt_zero a), rfl⟩
  case round =>
    obtain ⟨k, q, hk, rfl, HO, rfl⟩ := hrel
    have HD : Hid (∀ n, ∃ q', (w.drewN q).drewN n = w.drewN q') := fun n => ⟨_, World.drewN_drewN w q n⟩
    by_cases hlt : k < l.length
    · rcases hr with h0 | ⟨b1, o1, rfl, t1, _⟩
      · subst h0; simp at hlt
      have e1 : (w.drewN q).cell? ⟨b1, o1 + k, none⟩ = some (.string l[k]) := by rw [World.cell?_drewN]; exact t1 k hlt
      have H1 := Hid.mk' (HL.out k hlt q)
      generalize w.drewN q = W at *
      clear t1 HL hz
      cases he : like l[k] S with
      | true =>
        have HI := Hid.mk' (HF.out k hlt he (fun a ha => HO.out a ha (by omega)))
        rw [he] at H1
        clear HF HN HO he
        generalize l[k] = y at *
        go_wp2_with fail
        refine H1.out.mono ?_
        rintro e w1 ⟨rfl, n, rfl⟩
        go_wp2
        go_ret
        exact ⟨_, rfl, HI.out, HD.out n⟩
      | false =>
        have HO2 : Hid (∀ a (_ : a < k + 1) (h : a < l.length), like l[a] S = false) := fun a ha h => by
          by_cases e : a = k
          · subst e; exact he
          · exact HO.out a (by omega) h
        rw [he] at H1
        clear HF HN HO he
        generalize l[k] = y at *
        go_wp2_with fail
        refine H1.out.mono ?_
        rintro e w1 ⟨rfl, n, rfl⟩
        go_wp2
        go_roundw
        case rel => obtain ⟨q', e⟩ := HD.out n; exact ⟨k + 1, q', by omega, by go_num, HO2, e⟩
        case measure => simp [RowKit.intOf]; omega
    · obtain rfl : k = l.length := by omega
      have HI := Hid.mk' (HN.out (fun a ha => HO.out a ha ha))
      clear HF HN HO hr HL
      go_wp2
      go_ret
      obtain ⟨q', e⟩ := HD.out 0
      exact ⟨_, rfl, HI.out, q', e⟩

theorem Bytes_drew (b : UInt8) (W : World) : Calls Try.prog 21 #[.slice (some ⟨W.heap.size, 0, none⟩) 1 1] (W.alloc (.cells #[.int .i64 (b.toNat : Int)] 3)).drew fun e w' => e = .returned (.string ⟨#[b]⟩) ∧ Below W.heap.size W w' := by
  have hb := (Box.new W 3 (icells [b])).drew
  have hc : ∀ k (h : k < [b].length), ((W.alloc (.cells (icells [b]).toArray 3)).drew).cell? ⟨W.heap.size, k, none⟩ = some (.int .i64 ([b][k].toNat : Int)) := fun k h => by
    match k, h with
    | 0, _ => exact hb.cell rfl
    | k + 1, h => simp at h
  refine (Bytes_any [b] W.heap.size 1 (W.alloc (.cells (icells [b]).toArray 3)).drew (by simp) hc hb.lt).mono ?_
  rintro e w' ⟨rfl, h⟩
  exact ⟨rfl, (((Below.refl _ _).alloc (Nat.le_refl _) _).drew).trans (h.mono (by simp))⟩
theorem chainR {A W W' : World} (h : Below A.heap.size A W) (hb : Below W.heap.size W W') : Below A.heap.size A W' := h.trans (hb.mono h.size)

set_option maxHeartbeats 8000000 in
set_option maxRecDepth 100000 in
theorem ToldOf_three (w : World) (v : Value) (l : List ByteArray) (D : ByteArray) (hv : RdS w v l) (hq : D.toList = [3]) :
    Calls Try.prog 10 #[v, .string D] w fun e w' => e = .returned (.tuple #[.string ⟨#[]⟩, .int .i64 6]) ∧ Below w.heap.size w w' := by
  have HBy : Hid (∀ W : World, Calls Try.prog 21 #[.slice (some ⟨W.heap.size, 0, none⟩) 1 1] (W.alloc (.cells #[.int .i64 3] 3)).drew fun e w' => e = .returned (.string ⟨#[3]⟩) ∧ Below W.heap.size W w') := fun W => Bytes_drew 3 W
  obtain ⟨a, c, rfl, hc, hr⟩ := hv
  clear hr
  have HBX := Hid.mk' (Box.new w 9 [.string D])
  have HB1 := Hid.mk' ((Below.refl w.heap.size w).alloc (Nat.le_refl _) (.cells #[.string D] 9))
  have hs1 := HB1.out.size
  rw [show ([Value.string D] : List Value).toArray = #[Value.string D] from rfl] at HBX
  go_enter Try.func10, Try.ntmps10
  go_wp2_with fail
  generalize w.alloc (.cells #[.string D] 9) = w1 at *
  have hc0 : ∀ w', Below w1.heap.size w1 w' → w'.cell? ⟨w.heap.size, 0, none⟩ = some (.string D) := fun w' h => (HBX.out.later h).cell rfl
  have H0 : Hid (Below w1.heap.size w1 w1.drew) := (Below.refl _ _).drew
  go_region_held3 (fun w' => Below w1.heap.size w1 w') (first | with_reducible assumption | with_reducible exact H0.out | exact Below.alloc (by assumption) (Below.size (by assumption)) _ | exact chainR (by assumption) hb | exact chainR H0.out hb) ((go_at_call 21; refine (HBy.out _).mono ?_; rintro e wx ⟨rfl, hb⟩))
  all_goals (
    have h8 : Below w1.heap.size w1 wx := by first | assumption | exact chainR H0.out hb
    have HB2 : Hid (Below w.heap.size w wx) := HB1.out.trans (h8.mono hs1)
    have hcx := hc0 wx h8
    clear hc0 H0 h8 hb
    go_wp2
    go_ret2
    exact ⟨rfl, HB2.out⟩)

set_option maxHeartbeats 8000000 in
set_option maxRecDepth 100000 in
theorem ToldOf_empty (w : World) (v : Value) (l : List ByteArray) (D : ByteArray) (hv : RdS w v l) (hq : D.toList = []) :
    Calls Try.prog 10 #[v, .string D] w fun e w' => e = .returned (.tuple #[.string ⟨#[]⟩, .int .i64 4]) ∧ Below w.heap.size w w' := by
  have HBy : Hid (∀ W : World, Calls Try.prog 21 #[.slice (some ⟨W.heap.size, 0, none⟩) 1 1] (W.alloc (.cells #[.int .i64 3] 3)).drew fun e w' => e = .returned (.string ⟨#[3]⟩) ∧ Below W.heap.size W w') := fun W => Bytes_drew 3 W
  obtain ⟨a, c, rfl, hc, hr⟩ := hv
  clear hr
  have HBX := Hid.mk' (Box.new w 9 [.string D])
  have HB1 := Hid.mk' ((Below.refl w.heap.size w).alloc (Nat.le_refl _) (.cells #[.string D] 9))
  have hs1 := HB1.out.size
  rw [show ([Value.string D] : List Value).toArray = #[Value.string D] from rfl] at HBX
  go_enter Try.func10, Try.ntmps10
  go_wp2_with fail
  generalize w.alloc (.cells #[.string D] 9) = w1 at *
  have hc0 : ∀ w', Below w1.heap.size w1 w' → w'.cell? ⟨w.heap.size, 0, none⟩ = some (.string D) := fun w' h => (HBX.out.later h).cell rfl
  have H0 : Hid (Below w1.heap.size w1 w1.drew) := (Below.refl _ _).drew
  go_region_held3 (fun w' => Below w1.heap.size w1 w') (first | with_reducible assumption | with_reducible exact H0.out | exact Below.alloc (by assumption) (Below.size (by assumption)) _ | exact chainR (by assumption) hb | exact chainR H0.out hb) ((go_at_call 21; refine (HBy.out _).mono ?_; rintro e wx ⟨rfl, hb⟩))
  all_goals (
    have h8 : Below w1.heap.size w1 wx := by first | assumption | exact chainR H0.out hb
    have HB2 : Hid (Below w.heap.size w wx) := HB1.out.trans (h8.mono hs1)
    have hcx := hc0 wx h8
    clear hc0 H0 h8 hb
    go_wp2
    go_ret2
    exact ⟨rfl, HB2.out⟩)

set_option maxHeartbeats 8000000 in
set_option maxRecDepth 100000 in
theorem ToldOf_bad (w : World) (v : Value) (l : List ByteArray) (D : ByteArray) (hv : RdS w v l) (hq : (D.toList == [3]) = false) (hq2 : (D.toList == []) = false) (hs : 0 < D.size) (x : UInt8) (hx : D[0] = x) (h2 : x ≠ 2) :
    Calls Try.prog 10 #[v, .string D] w fun e w' => e = .returned (.tuple #[.string ⟨#[]⟩, .int .i64 4]) ∧ Below w.heap.size w w' := by
  have HBy : Hid (∀ W : World, Calls Try.prog 21 #[.slice (some ⟨W.heap.size, 0, none⟩) 1 1] (W.alloc (.cells #[.int .i64 3] 3)).drew fun e w' => e = .returned (.string ⟨#[3]⟩) ∧ Below W.heap.size W w') := fun W => Bytes_drew 3 W
  obtain ⟨a, c, rfl, hc, hr⟩ := hv
  have hn2 : ((x.toNat : Int) == 2) = false := by
    apply beq_false_of_ne
    intro e
    apply h2
    apply UInt8.toNat_inj.1
    show x.toNat = 2
    omega
  have hsi : (0 : Int) < (D.size : Int) := by omega
  clear hr h2
  have HBX := Hid.mk' (Box.new w 9 [.string D])
  have HB1 := Hid.mk' ((Below.refl w.heap.size w).alloc (Nat.le_refl _) (.cells #[.string D] 9))
  have hs1 := HB1.out.size
  rw [show ([Value.string D] : List Value).toArray = #[Value.string D] from rfl] at HBX
  go_enter Try.func10, Try.ntmps10
  go_wp2_with fail
  generalize w.alloc (.cells #[.string D] 9) = w1 at *
  have hc0 : ∀ w', Below w1.heap.size w1 w' → w'.cell? ⟨w.heap.size, 0, none⟩ = some (.string D) := fun w' h => (HBX.out.later h).cell rfl
  have H0 : Hid (Below w1.heap.size w1 w1.drew) := (Below.refl _ _).drew
  go_region_held3 (fun w' => Below w1.heap.size w1 w') (first | with_reducible assumption | with_reducible exact H0.out | exact Below.alloc (by assumption) (Below.size (by assumption)) _ | exact chainR (by assumption) hb | exact chainR H0.out hb) ((go_at_call 21; refine (HBy.out _).mono ?_; rintro e wx ⟨rfl, hb⟩))
  all_goals (
    have h8 : Below w1.heap.size w1 wx := by first | assumption | exact chainR H0.out hb
    have HB2 : Hid (Below w.heap.size w wx) := HB1.out.trans (h8.mono hs1)
    have hcx := hc0 wx h8
    clear hc0 H0 h8 hb
    go_wp2
    go_ret2
    exact ⟨rfl, HB2.out⟩)

set_option maxHeartbeats 8000000 in
set_option maxRecDepth 100000 in
theorem ToldOf_two (w : World) (v : Value) (l : List ByteArray) (D : ByteArray) (hv : RdS w v l) (hq : (D.toList == [3]) = false) (hq2 : (D.toList == []) = false) (hs : 0 < D.size) (hx : D[0] = 2) (S : ByteArray) (hn : l.length ≤ 17592186044416)
    (HIX : Hid (∀ W, Below w.heap.size w W → W.cell? ⟨w.heap.size, 0, none⟩ = some (.string D) → Calls Try.prog 24 #[v, .func (.func 25) #[] #[.pointer (some ⟨w.heap.size, 0, none⟩)]] W fun e w' => ∃ r : Int, e = .returned (.int .i64 r) ∧ IdxL l S r ∧ ∃ n, w' = W.drewN n)) (r1 : ByteArray) (r2 : Int)
    (HSM : Hid (∀ k (h : k < l.length), firstL l S = some l[k] → r1 = l[k] ∧ r2 = 0)) (HNO : Hid (firstL l S = none → r1 = ⟨#[]⟩ ∧ r2 = 6)) :
    Calls Try.prog 10 #[v, .string D] w fun e w' => e = .returned (.tuple #[.string r1, .int .i64 r2]) ∧ Below w.heap.size w w' := by
  have HBy : Hid (∀ W : World, Calls Try.prog 21 #[.slice (some ⟨W.heap.size, 0, none⟩) 1 1] (W.alloc (.cells #[.int .i64 3] 3)).drew fun e w' => e = .returned (.string ⟨#[3]⟩) ∧ Below W.heap.size W w') := fun W => Bytes_drew 3 W
  obtain ⟨a, c, rfl, hc, hr⟩ := hv
  have hsi : (0 : Int) < (D.size : Int) := by omega
  have HBX := Hid.mk' (Box.new w 9 [.string D])
  have HB1 := Hid.mk' ((Below.refl w.heap.size w).alloc (Nat.le_refl _) (.cells #[.string D] 9))
  have hs1 := HB1.out.size
  rw [show ([Value.string D] : List Value).toArray = #[Value.string D] from rfl] at HBX
  go_enter Try.func10, Try.ntmps10
  go_wp2_with fail
  generalize w.alloc (.cells #[.string D] 9) = w1 at *
  have hc0 : ∀ w', Below w1.heap.size w1 w' → w'.cell? ⟨w.heap.size, 0, none⟩ = some (.string D) := fun w' h => (HBX.out.later h).cell rfl
  have H0 : Hid (Below w1.heap.size w1 w1.drew) := (Below.refl _ _).drew
  go_region_held3 (fun w' => Below w1.heap.size w1 w') (first | with_reducible assumption | with_reducible exact H0.out | exact Below.alloc (by assumption) (Below.size (by assumption)) _ | exact chainR (by assumption) hb | exact chainR H0.out hb) ((go_at_call 21; refine (HBy.out _).mono ?_; rintro e wx ⟨rfl, hb⟩))
  all_goals (
    have h8 : Below w1.heap.size w1 wx := by first | assumption | exact chainR H0.out hb
    have HB2 : Hid (Below w.heap.size w wx) := HB1.out.trans (h8.mono hs1)
    have hcx := hc0 wx h8
    clear hc0 H0 h8 hb
    have H2 := Hid.mk' (HIX.out wx HB2.out hcx)
    clear HIX HBy HBX HB1
    go_wp2_with fail
    refine H2.out.mono ?_
    rintro e w3 ⟨r, rfl, hi, n, hw3⟩
    have HB3 : Hid (Below w.heap.size w w3) := by rw [hw3]; exact below_drewN HB2.out n
    clear hw3 H2 hcx
    rcases hi with ⟨k, hk, rfl, hf⟩ | ⟨rfl, hf⟩
    · obtain ⟨er, rfl⟩ := HSM.out k hk hf
      rcases hr with h0 | ⟨b1, o1, rfl, t1, hb1⟩
      · subst h0; simp at hk
      have e1 : w3.cell? ⟨b1, o1 + k, none⟩ = some (.string l[k]) := (HB3.out.cell (p := ⟨b1, o1 + k, none⟩) hb1).trans (t1 k hk)
      rw [← er] at e1
      have k0 : (0 : Int) ≤ (k : Int) := by omega
      have k1 : (k : Int) < (l.length : Int) := by omega
      clear HSM HNO hf t1 er
      go_wp2
      go_ret2
      exact ⟨rfl, HB3.out⟩
    · obtain ⟨rfl, rfl⟩ := HNO.out hf
      clear HSM HNO hf hr
      go_wp2
      go_ret2
      exact ⟨rfl, HB3.out⟩)

theorem toList_bs (d : List UInt8) : (bs d).toList = d := by rw [ByteArray.toList_eq, data_bs]
theorem ToldOf_any (w : World) (v : Value) (l : List ByteArray) (d : List UInt8) (hv : RdS w v l) (hn : l.length ≤ 17592186044416) (hz : ∀ k (h : k < l.length), (l[k]).size ≤ 9223372036854775807) (hd : d.length ≤ 9223372036854775807) :
    Calls Try.prog 10 #[v, .string (bs d)] w fun e w' => e = .returned (.tuple #[.string (toldT l d).1, .int .i64 (toldT l d).2]) ∧ Below w.heap.size w w' := by
  by_cases h3 : d = [3]
  · subst h3
    rw [toldT_three]
    exact ToldOf_three w v l _ hv (toList_bs [3])
  match d, hd, h3 with
  | [], _, h3 =>
    rw [toldT_bad h3 rfl]
    exact ToldOf_empty w v l _ hv (toList_bs [])
  | x :: s, hd, h3 =>
    have hq : ((bs (x :: s)).toList == [3]) = false := by rw [toList_bs]; exact beq_false_of_ne h3
    have hq2 : ((bs (x :: s)).toList == []) = false := by rw [toList_bs]; rfl
    have hs : 0 < (bs (x :: s)).size := by rw [bs_size]; simp
    by_cases h2 : x = 2
    · subst h2
      refine ToldOf_two w v l (bs (2 :: s)) hv hq hq2 hs rfl (bs s) hn (fun W hW hc => IndexS_any W v l w.heap.size 2 s (hv.below hW) hn hz (by simpa using hd) hc) _ _ (fun k h hf => ?_) (fun hf => ?_)
      · rw [toldT_some hf]; exact ⟨rfl, rfl⟩
      · rw [toldT_none hf]; exact ⟨rfl, rfl⟩
    · rw [toldT_bad h3 (by rw [cutP, if_neg h2])]
      exact ToldOf_bad w v l (bs (x :: s)) hv hq hq2 hs x rfl h2
end Go.Proofs.Ytckgkncahaicoaa.C
