/-
  Contracts of choice.freePart and choice.Ask; condition: at most 2^44 names.
-/
import Derived.Test.YtckgkncahaicoaaCStr
import Derived.Deep.LoopGhost
namespace Go.Proofs.Ytckgkncahaicoaa.C
open Go.RowKit Go.Lib Go.Proofs.Ytckgkncahaicoaa Go.Proofs.Ytckgkncahaicoaa.W Go.Proofs.Ytckgkncahaicoaa.Q

/-- is the byte in none of them? -/
def isFree (l : List ByteArray) (c : UInt8) : Bool := decide (∀ k (h : k < l.length), inT l[k] c = false)
theorem isFree_no {l : List ByteArray} {c : UInt8} (k : Nat) (h : k < l.length) (hi : inT l[k] c = true) : isFree l c = false := decide_eq_false (fun hh => by rw [hh k h] at hi; cases hi)
theorem isFree_mem {l : List ByteArray} {c : UInt8} (h : isFree l c = true) : ∀ x ∈ l, c ∉ x.data.toList := by
  intro x hx
  obtain ⟨k, hk, rfl⟩ := List.mem_iff_getElem.1 hx
  exact of_decide_eq_false (of_decide_eq_true h k hk)
/-- a byte that may part names -/
def pb (k : Nat) : UInt8 := UInt8.ofNat (33 + k)
theorem pb_nat (k : Nat) (h : k ≤ 15) : (pb k).toNat = 33 + k := by
  unfold pb
  rw [UInt8.toNat_ofNat']
  omega
/-- the least one that is free -/
def free (l : List ByteArray) : Option UInt8 := ((List.range 15).map pb).find? (isFree l)
theorem free_some {l : List ByteArray} {k : Nat} (hk : k < 15) (he : isFree l (pb k) = true) (hn : ∀ a, a < k → isFree l (pb a) = false) : free l = some (pb k) := by
  unfold free
  rw [List.find?_eq_some_iff_getElem]
  refine ⟨he, k, by simpa using hk, by simp, fun j hj => ?_⟩
  simp only [List.getElem_map, List.getElem_range]
  rw [hn j hj]; rfl
theorem free_none {l : List ByteArray} (hn : ∀ a, a < 15 → isFree l (pb a) = false) : free l = none := by
  unfold free
  rw [List.find?_eq_none]
  intro x hx
  simp only [List.mem_map, List.mem_range] at hx
  obtain ⟨a, ha, rfl⟩ := hx
  simp [hn a ha]
theorem free_is {l : List ByteArray} {c : UInt8} (h : free l = some c) : isFree l c = true ∧ 33 ≤ c.toNat ∧ c.toNat ≤ 47 := by
  unfold free at h
  refine ⟨List.find?_some h, ?_⟩
  have := List.mem_of_find?_eq_some h
  simp only [List.mem_map, List.mem_range] at this
  obtain ⟨a, ha, rfl⟩ := this
  rw [pb_nat a (by omega)]
  omega
/-- the text of a parting byte -/
def fpart : Option UInt8 → ByteArray
  | some c => ⟨#[c]⟩
  | none => ⟨#[]⟩

def FO (w : World) (l : List ByteArray) (g : Nat) (s3 : Value) (wr : World) : Prop :=
  ∃ k : Nat, k ≤ 15 ∧ k + g = 15 ∧ s3 = .int .i64 ((33 + k : Nat) : Int) ∧ Hid (∀ a, a < k → isFree l (pb a) = false) ∧ Below w.heap.size w wr
def FI (w1 : World) (l : List ByteArray) (c : UInt8) (g : Nat) (s17 : Value) (wr : World) : Prop :=
  ∃ j : Nat, j ≤ l.length ∧ j + g = l.length ∧ s17 = .int .i64 (j : Int) ∧ Hid (∀ a (_ : a < j) (h : a < l.length), inT l[a] c = false) ∧ wr = w1

set_option maxHeartbeats 4000000 in
set_option maxRecDepth 100000 in
theorem freePart_any (w : World) (v : Value) (l : List ByteArray) (hv : RdS w v l) (hn : l.length ≤ 17592186044416) :
    Calls Try.prog 16 #[v] w fun e w' => e = .returned (.string (fpart (free l))) ∧ Below w.heap.size w w' := by
  have HF : Hid (∀ k, k < 15 → isFree l (pb k) = true → (∀ a, a < k → isFree l (pb a) = false) → fpart (free l) = ⟨#[pb k]⟩) := fun k h1 h2 h3 => by rw [free_some h1 h2 h3]; rfl
  have HN : Hid ((∀ a, a < 15 → isFree l (pb a) = false) → fpart (free l) = ⟨#[]⟩) := fun h => by rw [free_none h]; rfl
  have HC := Hid.mk' Contains_one
  obtain ⟨a, c, rfl, hc, hr⟩ := hv
  generalize fpart (free l) = R at *
  have HS : Hid (FO w l 15 (.int .i64 33) w) := ⟨0, by omega, by omega, rfl, fun a h => absurd h (Nat.not_lt_zero a), Below.refl _ _⟩
  go_enter Try.func16, Try.ntmps16
  go_wp2
  go_step3
  go_wp2
  go_step3
  go_wp2_with fail
  go_loopg [3] 15 (fun g s3 wr => FO w l g s3 wr)
  case atStart => exact HS.out
  case round =>
    obtain ⟨k, hk, hg, rfl, HO, hbl⟩ := hrel
    clear HS
    have HB := Hid.mk' hbl
    have hsz := hbl.size
    by_cases hlt : k < 15
    · have hstr : (convert 46 9 (.slice (some ⟨wr.heap.size, 0, none⟩) 1 1)).run Try.prog (wr.alloc (.cells #[.int .u8 ((33 + k : Nat) : Int)] 5)) = .ok (.string ⟨#[pb k]⟩) (wr.alloc (.cells #[.int .u8 ((33 + k : Nat) : Int)] 5)) := by
        have := run_str (OwnB.lit wr [pb k] (by simp))
        simp only [bcells, List.map_cons, List.map_nil, pb_nat k (by omega), List.length_cons, List.length_nil] at this
        exact this
      have HB1 := Hid.mk' (hbl.alloc hsz (.cells #[.int .u8 ((33 + k : Nat) : Int)] 5))
      have x0 : (0 : Int) ≤ ((33 + k : Nat) : Int) := by omega
      have x1 : ((33 + k : Nat) : Int) ≤ 47 := by omega
      have hnx : ((33 + (k + 1) : Nat) : Int) = ((33 + k : Nat) : Int) + 1 := by omega
      have HNX : Hid (Value.int .i64 (((33 + k : Nat) : Int) + 1) = .int .i64 ((33 + (k + 1) : Nat) : Int)) := congrArg (Value.int .i64) hnx.symm
      have HFk := Hid.mk' (HF.out k hlt)
      have HO2 : Hid (isFree l (pb k) = false → ∀ a, a < k + 1 → isFree l (pb a) = false) := fun hf a ha => by
        by_cases e : a = k
        · subst e; exact hf
        · exact HO.out a (by omega)
      obtain ⟨wo, hwo⟩ : ∃ wo, wo = wr := ⟨_, rfl⟩
      subst hwo
      clear hbl hnx HF HN
      generalize hcb : pb k = cb at *
      generalize ((33 + k : Nat) : Int) = x at *
      generalize hw1 : wo.alloc (.cells #[.int .u8 x] 5) = w1 at *
      clear hcb
      go_wp2_with fail
      clear hw1 hstr
      go_loopg [17] l.length (fun g s17 wr => FI w1 l cb g s17 wr)
      case atStart => exact ⟨0, Nat.zero_le _, by omega, rfl, fun a h => absurd h (Nat.not_lt_zero a), rfl⟩
      case round =>
        obtain ⟨j, hj, hgj, rfl, HI, rfl⟩ := hrel
        by_cases hjl : j < l.length
        · rcases hr with h0 | ⟨b1, o1, rfl, t1, hb1⟩
          · subst h0; simp at hjl
          have e1 : wr.cell? ⟨b1, o1 + j, none⟩ = some (.string l[j]) := (HB1.out.cell (p := ⟨b1, o1 + j, none⟩) hb1).trans (t1 j hjl)
          have H1 := Hid.mk' (HC.out l[j] cb wr)
          clear t1 HC
          cases hi : inT l[j] cb with
          | true =>
            have hf : isFree l cb = false := isFree_no j hjl hi
            have HO3 := Hid.mk' (HO2.out hf)
            rw [hi] at H1
            clear hi HI HO2 HFk hf
            generalize l[j] = y at *
            generalize (⟨#[cb]⟩ : ByteArray) = T at *
            go_wp2_with fail
            refine H1.out.mono ?_
            rintro e w5 ⟨rfl, rfl⟩
            go_wp2
            go_roundg (15 - (k + 1))
            case measure => omega
            case rel => exact ⟨k + 1, by omega, by omega, HNX.out, HO3, HB1.out⟩
          | false =>
            have HI2 : Hid (∀ a (_ : a < j + 1) (h : a < l.length), inT l[a] cb = false) := fun a ha h => by
              by_cases e : a = j
              · subst e; exact hi
              · exact HI.out a (by omega) h
            rw [hi] at H1
            clear hi HI HO2 HFk
            generalize l[j] = y at *
            generalize (⟨#[cb]⟩ : ByteArray) = T at *
            go_wp2_with fail
            refine H1.out.mono ?_
            rintro e w5 ⟨rfl, rfl⟩
            go_wp2
            go_roundg (l.length - (j + 1))
            case measure => omega
            case rel => exact ⟨j + 1, by omega, by omega, by go_num, HI2, rfl⟩
        · obtain rfl : j = l.length := by omega
          have hf : isFree l cb = true := decide_eq_true (fun a ha => HI.out a ha ha)
          have e : R = ⟨#[cb]⟩ := HFk.out hf HO.out
          clear hf HI HO HO2 HFk hr HC
          generalize (⟨#[cb]⟩ : ByteArray) = T at *
          subst e
          go_wp2
          try rw [Exit.noGoto_ret]
          go_ret
          exact ⟨rfl, HB1.out⟩
    · obtain rfl : k = 15 := by omega
      have e : R = ⟨#[]⟩ := HN.out HO.out
      subst e
      clear HN HF HO hr HC
      go_wp2
      try rw [Exit.noGoto_ret]
      go_ret
      exact ⟨rfl, HB.out⟩

/-- are they names? -/
def namesOk (l : List ByteArray) : Bool := decide (∀ k (h : k < l.length), nameOk l[k] = true)
theorem namesOk_no {l : List ByteArray} (k : Nat) (h : k < l.length) (hs : nameOk l[k] = false) : namesOk l = false := decide_eq_false (fun hh => by rw [hh k h] at hs; cases hs)
theorem namesOk_mem {l : List ByteArray} (h : namesOk l = true) : ∀ x ∈ l, nameOk x = true := by
  intro x hx
  obtain ⟨k, hk, rfl⟩ := List.mem_iff_getElem.1 hx
  exact of_decide_eq_true h k hk
theorem join_len (sep : List UInt8) (hs : sep.length ≤ 1) : ∀ l : List ByteArray, (∀ x ∈ l, x.size ≤ 40) → (Lib.join (l.map fun x => x.data.toList) sep).length ≤ 41 * l.length
  | [], _ => by simp [Lib.join_nil]
  | [x], h => by
    have := h x (by simp)
    simp only [List.map_cons, List.map_nil, Lib.join_one, List.length_cons, List.length_nil]
    rw [← size_data]
    omega
  | x :: y :: r, h => by
    have ih := join_len sep hs (y :: r) (fun z hz => h z (by simp [hz]))
    have hx := h x (by simp)
    rw [size_data] at hx
    have e : Lib.join ((x :: y :: r).map fun x => x.data.toList) sep = x.data.toList ++ (sep ++ Lib.join ((y :: r).map fun x => x.data.toList) sep) := by
      simp only [List.map_cons]
      rw [Lib.join_cons, Lib.join_cons, Lib.joinTail]
      simp [Lib.joinTail]
    rw [e, List.length_append, List.length_append]
    simp only [List.length_cons] at ih ⊢
    omega
theorem join_small {l : List ByteArray} (h : namesOk l = true) (h8 : l.length ≤ 8) (sep : List UInt8) (hs : sep.length ≤ 1) : (Lib.join (l.map fun x => x.data.toList) sep).length ≤ 328 := by
  have := join_len sep hs l (fun x hx => (nameOk_size (namesOk_mem h x hx)).2)
  omega
/-- what Ask answers -/
def askT (l : List ByteArray) : ByteArray × Int :=
  if ¬ (1 ≤ l.length ∧ l.length ≤ 8) then (⟨#[]⟩, 1) else if namesOk l = false then (⟨#[]⟩, 4) else
    match free l with
    | none => (⟨#[]⟩, 5)
    | some c => (bs (1 :: c :: Lib.join (l.map fun x => x.data.toList) [c]), 0)

theorem askT_arg {l : List ByteArray} (h : ¬ (1 ≤ l.length ∧ l.length ≤ 8)) : askT l = (⟨#[]⟩, 1) := if_pos h
theorem askT_form {l : List ByteArray} (h : 1 ≤ l.length ∧ l.length ≤ 8) (ho : namesOk l = false) : askT l = (⟨#[]⟩, 4) := by
  unfold askT
  rw [if_neg (fun x => x h), if_pos ho]
theorem askT_full {l : List ByteArray} (h : 1 ≤ l.length ∧ l.length ≤ 8) (ho : namesOk l = true) (hf : free l = none) : askT l = (⟨#[]⟩, 5) := by
  unfold askT
  rw [if_neg (fun x => x h), if_neg (by rw [ho]; decide), hf]
theorem askT_ok {l : List ByteArray} (h : 1 ≤ l.length ∧ l.length ≤ 8) (ho : namesOk l = true) {c : UInt8} (hf : free l = some c) : askT l = (bs (1 :: c :: Lib.join (l.map fun x => x.data.toList) [c]), 0) := by
  unfold askT
  rw [if_neg (fun x => x h), if_neg (by rw [ho]; decide), hf]

set_option maxHeartbeats 4000000 in
theorem Ask_any (w : World) (v : Value) (l : List ByteArray) (hv : RdS w v l) (hn : l.length ≤ 17592186044416) :
    Calls Try.prog 7 #[v] w fun e w' => e = .returned (.tuple #[.string (askT l).1, .int .i64 (askT l).2]) ∧ Below w.heap.size w w' := by
  have HI := Hid.mk' IsName_any
  have HP := Hid.mk' (freePart_any w v l hv hn)
  have HJ : Hid (∀ W, Below w.heap.size w W → 1 ≤ l.length → l.length ≤ 8 → namesOk l = true → ∀ c : UInt8, Calls Try.prog 17 #[v, .string ⟨#[c]⟩] W fun e w' => e = .returned (.string (joined l [c])) ∧ Below W.heap.size W w') := fun W hW h1 h8 ho c =>
    Join_any W v l [c] (hv.below hW) h1 hn (by have := join_small ho h8 [c] (by simp); omega)
  obtain ⟨a, cc, rfl, hc, hr⟩ := hv
  by_cases h1 : l.length < 1
  · rw [askT_arg (by omega)]
    have h1' : (l.length : Int) < 1 := by omega
    go_enter Try.func7, Try.ntmps7
    go_wp2
    go_ret2
    exact ⟨rfl, Below.refl _ _⟩
  by_cases h2 : 8 < l.length
  · rw [askT_arg (by omega)]
    have h1' : ¬ (l.length : Int) < 1 := by omega
    have h2' : (8 : Int) < (l.length : Int) := by omega
    go_enter Try.func7, Try.ntmps7
    go_wp2
    go_ret2
    exact ⟨rfl, Below.refl _ _⟩
  have hl : 1 ≤ l.length ∧ l.length ≤ 8 := by omega
  have HR4 := Hid.mk' (askT_form hl)
  have HR5 := Hid.mk' (askT_full hl)
  have HR0 : Hid (namesOk l = true → ∀ c, free l = some c → askT l = _) := fun ho c hf => askT_ok hl ho hf
  have h1' : ¬ (l.length : Int) < 1 := by omega
  have h2' : ¬ (8 : Int) < (l.length : Int) := by omega
  have HT : Hid ((∀ k (h : k < l.length), nameOk l[k] = true) → namesOk l = true) := fun h => decide_eq_true h
  have HF : Hid (∀ k (h : k < l.length), nameOk l[k] = false → namesOk l = false) := fun k h hs => namesOk_no k h hs
  have HFR : Hid (∀ c, free l = some c → Calls Try.prog 16 #[.slice a l.length cc] w fun e w' => e = .returned (.string ⟨#[c]⟩) ∧ Below w.heap.size w w') := fun c h => by have := HP.out; rw [h] at this; exact this
  have HFN : Hid (free l = none → Calls Try.prog 16 #[.slice a l.length cc] w fun e w' => e = .returned (.string ⟨#[]⟩) ∧ Below w.heap.size w w') := fun h => by have := HP.out; rw [h] at this; exact this
  have HSM : Hid (namesOk l = true → ∀ c : UInt8, (joined l [c]).size ≤ 328) := fun h c => by
    have := join_small h (by omega) [c] (by simp)
    unfold joined
    rw [bs_size]; exact this
  have HAP : Hid (∀ c : UInt8, (⟨#[1]⟩ : ByteArray) ++ ⟨#[c]⟩ ++ joined l [c] = bs (1 :: c :: Lib.join (l.map fun x => x.data.toList) [c])) := fun c => by
    show bs [1] ++ bs [c] ++ bs (Lib.join (l.map fun x => x.data.toList) [c]) = _
    rw [bs_app, bs_app]; rfl
  clear HP
  generalize hno : namesOk l = NO at *
  clear hno
  generalize free l = FR at *
  generalize askT l = R at *
  obtain ⟨r1, r2⟩ := R
  go_enter Try.func7, Try.ntmps7
  go_wp2_with fail
  go_loopw [17] (fun s17 wr => ∃ k : Nat, k ≤ l.length ∧ s17 = .int .i64 (k : Int) ∧ Hid (∀ a (_ : a < k) (h : a < l.length), nameOk l[a] = true) ∧ wr = w) (fun i _ => l.length - (RowKit.intOf i).toNat)
  case atStart => exact ⟨0, Nat.zero_le _, rfl, fun a h => absurd h (Nat.not_lt_zero a), rfl⟩
  case round =>
    obtain ⟨k, hk, rfl, HO, rfl⟩ := hrel
    by_cases hlt : k < l.length
    · rcases hr with h0 | ⟨b1, o1, rfl, t1, _⟩
      · subst h0; simp at hlt
      have e1 := t1 k hlt
      have H1 := Hid.mk' (HI.out l[k] wr)
      clear t1 HI HJ HFR HFN HSM HAP HR5 HR0
      cases hs : nameOk l[k] with
      | false =>
        have e : NO = false := HF.out k hlt hs
        subst e
        have er := HR4.out rfl
        simp only [Prod.mk.injEq] at er
        obtain ⟨rfl, rfl⟩ := er
        rw [hs] at H1
        clear HT HF HO hs
        generalize l[k] = x at *
        go_wp2_with fail
        refine H1.out.mono ?_
        rintro e w1 ⟨rfl, rfl⟩
        go_wp2
        go_ret2
        exact ⟨rfl, Below.refl _ _⟩
      | true =>
        have HO2 : Hid (∀ a (_ : a < k + 1) (h : a < l.length), nameOk l[a] = true) := fun a ha h => by
          by_cases e : a = k
          · subst e; exact hs
          · exact HO.out a (by omega) h
        rw [hs] at H1
        clear HT HF HO hs
        generalize l[k] = x at *
        go_wp2_with fail
        refine H1.out.mono ?_
        rintro e w1 ⟨rfl, rfl⟩
        go_wp2
        go_roundw
        case rel => exact ⟨k + 1, by omega, by go_num, HO2, trivial⟩
        case measure => simp [RowKit.intOf]; omega
    · obtain rfl : k = l.length := by omega
      have e : NO = true := HT.out (fun a ha => HO.out a ha ha)
      subst e
      clear HT HF HO HI hr
      cases FR with
      | none =>
        have er := HR5.out rfl rfl
        simp only [Prod.mk.injEq] at er
        obtain ⟨rfl, rfl⟩ := er
        have H1 := Hid.mk' (HFN.out rfl)
        clear HFN HFR HJ HSM HAP HR0 HR4 HR5
        go_wp2_with fail
        refine H1.out.mono ?_
        rintro e w1 ⟨rfl, hb1⟩
        have HB1 := Hid.mk' hb1
        clear hb1
        go_wp2
        go_ret2
        exact ⟨rfl, HB1.out⟩
      | some c =>
        have H1 := Hid.mk' (HFR.out c rfl)
        have H2 := Hid.mk' (fun W hW => HJ.out W hW (by omega) (by omega) rfl c)
        have hsm := HSM.out rfl c
        have hap := HAP.out c
        have hz1 : (⟨#[c]⟩ : ByteArray).size = 1 := rfl
        have hz2 : ((⟨#[1]⟩ : ByteArray) ++ (⟨#[c]⟩ : ByteArray)).size = 2 := rfl
        have hem : (⟨#[c]⟩ : ByteArray).toList.isEmpty = false := by rw [ByteArray.toList_eq]; rfl
        clear HFN HFR HJ HSM HAP
        have er := HR0.out rfl c rfl
        simp only [Prod.mk.injEq] at er
        obtain ⟨er, rfl⟩ := er
        rw [← er] at hap
        clear HR0 HR4 HR5 er
        generalize joined l [c] = J at *
        generalize (⟨#[c]⟩ : ByteArray) = T at *
        go_wp2_with fail
        refine H1.out.mono ?_
        rintro e w1 ⟨rfl, hb1⟩
        have HB1 := Hid.mk' hb1
        have hs1 := hb1.size
        have H3 := Hid.mk' (H2.out w1 hb1)
        clear hb1 H2
        go_wp2_with fail
        refine H3.out.mono ?_
        rintro e w2 ⟨rfl, hb2⟩
        have HB2 : Hid (Below wr.heap.size wr w2) := HB1.out.trans (hb2.mono hs1)
        clear hb2
        go_wp2
        go_ret2
        exact ⟨rfl, HB2.out⟩
end Go.Proofs.Ytckgkncahaicoaa.C
