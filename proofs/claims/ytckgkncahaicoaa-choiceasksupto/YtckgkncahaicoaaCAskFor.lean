/-
  Contract of farref.AskFor; conditions: at most 2^44 names, and together at most 2^47 bytes.
-/
import Derived.Test.YtckgkncahaicoaaCRef
import Derived.Deep.LoopGhost
namespace Go.Proofs.Ytckgkncahaicoaa.C
open Go.RowKit Go.Lib Go.Proofs.Ytckgkncahaicoaa Go.Proofs.Ytckgkncahaicoaa.W Go.Proofs.Ytckgkncahaicoaa.Q

theorem inT_joined (l : List ByteArray) (c : UInt8) : inT (joined l []) c = !isFree l c := by
  cases h : isFree l c with
  | true =>
    unfold inT joined
    rw [data_bs]
    refine decide_eq_false fun hm => ?_
    rw [join_mem] at hm
    obtain ⟨x, hx, hc⟩ := hm
    simp only [List.mem_map] at hx
    obtain ⟨y, hy, rfl⟩ := hx
    exact isFree_mem h y hy hc
  | false =>
    have h' := of_decide_eq_false h
    unfold inT joined
    rw [data_bs]
    refine decide_eq_true ?_
    rw [join_mem]
    refine Classical.byContradiction fun hn => h' fun k hk => decide_eq_false fun hc => hn ⟨(l[k]).data.toList, ?_, hc⟩
    simp only [List.mem_map]
    exact ⟨l[k], List.getElem_mem hk, rfl⟩

def NState (w1 : World) (l : List ByteArray) (s16 : Value) (wr : World) : Prop :=
  ∃ k : Nat, k ≤ l.length ∧ s16 = .int .i64 (k : Int) ∧ Hid (∀ a (_ : a < k) (h : a < l.length), nameOk l[a] = true) ∧ Hid (Below w1.heap.size w1 wr)

set_option maxHeartbeats 8000000 in
set_option maxRecDepth 100000 in
theorem AskFor_any (w : World) (v : Value) (l : List ByteArray) (hv : RdS w v l) (hn : l.length ≤ 17592186044416) (hjl : (Lib.join (l.map fun x => x.data.toList) []).length ≤ 140737488355328) :
    Calls Try.prog 8 #[v] w fun e w' => e = .returned (.tuple #[.string (askT l).1, .int .i64 (askT l).2]) ∧ Below w.heap.size w w' := by
  have HT := Hid.mk' (Between_any (l.length : Int) 1 8 w)
  cases hb : btw (l.length : Int) 1 8 with
  | false =>
    have hb' := of_decide_eq_false hb
    rw [hb] at HT
    rw [askT_arg (by omega)]
    obtain ⟨a, cc, rfl, hc, hr⟩ := hv
    clear hr
    go_enter Try.func8, Try.ntmps8
    go_wp2_with fail
    refine HT.out.mono ?_
    rintro e w1 ⟨rfl, rfl⟩
    go_wp2
    go_ret2
    exact ⟨rfl, Below.refl _ _⟩
  | true =>
    have hb' := of_decide_eq_true hb
    rw [hb] at HT
    have hl : 1 ≤ l.length ∧ l.length ≤ 8 := by omega
    have HJ0 := Hid.mk' (Join_any w v l [] hv hl.1 hn hjl)
    have HI := Hid.mk' Name_any
    have HJ : Hid (∀ W, Below w.heap.size w W → namesOk l = true → ∀ c : UInt8, Calls Try.prog 17 #[v, .string ⟨#[c]⟩] W fun e w' => e = .returned (.string (joined l [c])) ∧ Below W.heap.size W w') := fun W hW ho c =>
      Join_any W v l [c] (hv.below hW) hl.1 hn (by have := join_small ho hl.2 [c] (by simp); omega)
    have HCO : Hid (∀ (c : UInt8) W, Calls Try.prog 20 #[.string (joined l []), .string ⟨#[c]⟩] W fun e w' => e = .returned (.bool (!isFree l c)) ∧ w' = W) := fun c W => by
      have := Contains_one (joined l []) c W
      rw [inT_joined] at this
      exact this
    have HB1c : Hid (∀ (c : UInt8) (W : World), Calls Try.prog 21 #[.slice (some ⟨W.heap.size, 0, none⟩) 1 1] (W.alloc (.cells #[.int .i64 (c.toNat : Int)] 3)) fun e w' => e = .returned (.string ⟨#[c]⟩) ∧ Below W.heap.size W w') := fun c W => Bytes_ints [c] W (by simp)
    have HB2c : Hid (∀ (c : UInt8) (W : World), Calls Try.prog 21 #[.slice (some ⟨W.heap.size, 0, none⟩) 2 2] (W.alloc (.cells #[.int .i64 1, .int .i64 (c.toNat : Int)] 3)) fun e w' => e = .returned (.string ⟨#[1, c]⟩) ∧ Below W.heap.size W w') := fun c W => Bytes_ints [1, c] W (by simp)
    have HNT : Hid ((∀ k (h : k < l.length), nameOk l[k] = true) → namesOk l = true) := fun h => decide_eq_true h
    have HR4 : Hid (∀ k (h : k < l.length), nameOk l[k] = false → askT l = (⟨#[]⟩, 4)) := fun k h hs => askT_form hl (namesOk_no k h hs)
    have HR5 : Hid (namesOk l = true → (∀ a, a < 15 → isFree l (pb a) = false) → askT l = (⟨#[]⟩, 5)) := fun ho h => askT_full hl ho (free_none h)
    have HR0 : Hid (namesOk l = true → ∀ k, k < 15 → isFree l (pb k) = true → (∀ a, a < k → isFree l (pb a) = false) → askT l = ((⟨#[1, pb k]⟩ : ByteArray) ++ joined l [pb k], 0)) := fun ho k hk h1 h2 => by
      rw [askT_ok hl ho (free_some hk h1 h2)]
      show _ = (bs [1, pb k] ++ bs _, _)
      rw [bs_app]; rfl
    have HSM : Hid (namesOk l = true → ∀ c : UInt8, (joined l [c]).size ≤ 328) := fun h c => by
      have := join_small h hl.2 [c] (by simp)
      unfold joined
      rw [bs_size]; exact this
    obtain ⟨a, cc, rfl, hc, hr⟩ := hv
    generalize askT l = R at *
    obtain ⟨r1, r2⟩ := R
    generalize hX : joined l [] = X at *
    rw [show (bs [] : ByteArray) = ⟨#[]⟩ from rfl] at HJ0
    generalize hno : namesOk l = NO at *
    clear hX hjl hno
    go_enter Try.func8, Try.ntmps8
    go_wp2_with fail
    refine HT.out.mono ?_
    rintro e w0 ⟨rfl, rfl⟩
    go_wp2_with fail
    refine HJ0.out.mono ?_
    rintro e w1 ⟨rfl, hb1⟩
    have HB1 := Hid.mk' hb1
    have hs1 := hb1.size
    clear hb1 HJ0 HT
    go_wp2_with fail
    go_loopw [16] (fun s16 wr => NState w1 l s16 wr) (fun i _ => l.length - (RowKit.intOf i).toNat)
    case atStart => exact ⟨0, Nat.zero_le _, rfl, fun a h => absurd h (Nat.not_lt_zero a), Below.refl _ _⟩
    case round =>
      obtain ⟨k, hk, rfl, HO, HB⟩ := hrel
      have HB2 : Hid (Below w0.heap.size w0 wr) := HB1.out.trans (HB.out.mono hs1)
      have hs2 := HB2.out.size
      have hsb := HB.out.size
      by_cases hlt : k < l.length
      · rcases hr with h0 | ⟨b1, o1, rfl, t1, hb1⟩
        · subst h0; simp at hlt
        have e1 : wr.cell? ⟨b1, o1 + k, none⟩ = some (.string l[k]) := (HB2.out.cell (p := ⟨b1, o1 + k, none⟩) hb1).trans (t1 k hlt)
        have H1 := Hid.mk' (HI.out l[k] wr)
        clear t1 HI HJ HCO HB1c HB2c HR5 HR0 HSM HNT
        cases hs : nameOk l[k] with
        | false =>
          have er := HR4.out k hlt hs
          simp only [Prod.mk.injEq] at er
          obtain ⟨rfl, rfl⟩ := er
          rw [hs] at H1
          clear HR4 HO hs
          generalize l[k] = x at *
          go_wp2_with fail
          refine H1.out.mono ?_
          rintro e w3 ⟨rfl, hb3⟩
          have HB3 : Hid (Below w0.heap.size w0 w3) := HB2.out.trans (hb3.mono hs2)
          clear hb3
          go_wp2
          go_ret2
          exact ⟨rfl, HB3.out⟩
        | true =>
          have HO2 : Hid (∀ a (_ : a < k + 1) (h : a < l.length), nameOk l[a] = true) := fun a ha h => by
            by_cases e : a = k
            · subst e; exact hs
            · exact HO.out a (by omega) h
          rw [hs] at H1
          clear HR4 HO hs
          generalize l[k] = x at *
          go_wp2_with fail
          refine H1.out.mono ?_
          rintro e w3 ⟨rfl, hb3⟩
          have HB3 : Hid (Below w1.heap.size w1 w3) := HB.out.trans (hb3.mono hsb)
          clear hb3
          go_wp2
          go_roundw
          case rel => exact ⟨k + 1, by omega, by go_num, HO2, HB3⟩
          case measure => simp [RowKit.intOf]; omega
      · obtain rfl : k = l.length := by omega
        obtain rfl : NO = true := HNT.out (fun a ha => HO.out a ha ha)
        have HJ1 : Hid (∀ W, Below w0.heap.size w0 W → ∀ c : UInt8, _) := Hid.mk' (fun W hW c => HJ.out W hW rfl c)
        have HR01 := Hid.mk' (HR0.out rfl)
        have HR51 := Hid.mk' (HR5.out rfl)
        have HSM1 := Hid.mk' (HSM.out rfl)
        clear HNT HR4 HO HI hr HJ HR0 HR5 HSM
        obtain ⟨w2, hw2⟩ : ∃ w2, w2 = wr := ⟨_, rfl⟩
        subst hw2
        go_wp2_with fail
        go_loopg [7] 15 (fun g s7 wr => FO w2 l g s7 wr)
        case atStart => exact ⟨0, by omega, by omega, rfl, fun a h => absurd h (Nat.not_lt_zero a), Below.refl _ _⟩
        case round =>
          obtain ⟨k, hk, hg, rfl, HO, hbl⟩ := hrel
          have HBL : Hid (Below w2.heap.size w2 wr) := hbl
          have HB4 : Hid (Below w0.heap.size w0 wr) := HB2.out.trans (hbl.mono hs2)
          have hs4 := HB4.out.size
          have hsl := hbl.size
          clear hbl
          by_cases hlt : k < 15
          · have x0 : (0 : Int) ≤ ((33 + k : Nat) : Int) := by omega
            have x1 : ((33 + k : Nat) : Int) ≤ 47 := by omega
            have hpn := pb_nat k (by omega)
            have HNX : Hid (Value.int .i64 (((33 + k : Nat) : Int) + 1) = .int .i64 ((33 + (k + 1) : Nat) : Int)) := congrArg (Value.int .i64) (by omega)
            have H1 := Hid.mk' (HB1c.out (pb k))
            have H2 := Hid.mk' (HB2c.out (pb k))
            rw [hpn] at H1 H2
            have H3 := Hid.mk' (HCO.out (pb k))
            have H4 : Hid (∀ W, Below w0.heap.size w0 W → _) := Hid.mk' (fun W hW => HJ1.out W hW (pb k))
            have HRk := Hid.mk' (HR01.out k hlt)
            have hsm := HSM1.out (pb k)
            have hz2 : (⟨#[1, pb k]⟩ : ByteArray).size = 2 := rfl
            have HO2 : Hid (isFree l (pb k) = false → ∀ a, a < k + 1 → isFree l (pb a) = false) := fun hf a ha => by
              by_cases e : a = k
              · subst e; exact hf
              · exact HO.out a (by omega)
            clear HB1c HB2c HCO HJ1 HR01 HR51 HSM1 hpn
            cases hf : isFree l (pb k) with
            | false =>
              rw [hf, Bool.not_false] at H3
              have HO3 := Hid.mk' (HO2.out hf)
              clear HO2 HO HRk hf H2 H4 hsm hz2
              generalize ((33 + k : Nat) : Int) = x at *
              generalize (⟨#[pb k]⟩ : ByteArray) = T at *
              go_wp2_with fail
              refine (H1.out wr).mono ?_
              rintro e w3 ⟨rfl, hb3⟩
              have HB5 : Hid (Below w2.heap.size w2 w3) := HBL.out.trans (hb3.mono hsl)
              clear hb3
              go_wp2_with fail
              refine (H3.out _).mono ?_
              rintro e w5 ⟨rfl, rfl⟩
              go_wp2
              go_roundg (15 - (k + 1))
              case measure => omega
              case rel => exact ⟨k + 1, by omega, by omega, HNX.out, HO3, HB5.out⟩
            | true =>
              rw [hf, Bool.not_true] at H3
              have er := HRk.out hf HO.out
              simp only [Prod.mk.injEq] at er
              obtain ⟨er, rfl⟩ := er
              clear HO2 HO HRk hf HNX
              generalize ((33 + k : Nat) : Int) = x at *
              generalize joined l [pb k] = J at *
              generalize (⟨#[1, pb k]⟩ : ByteArray) = T2 at *
              generalize (⟨#[pb k]⟩ : ByteArray) = T at *
              go_wp2_with fail
              refine (H1.out wr).mono ?_
              rintro e w3 ⟨rfl, hb3⟩
              have HB5 : Hid (Below w0.heap.size w0 w3) := HB4.out.trans (hb3.mono hs4)
              have hs5 := HB5.out.size
              clear hb3
              go_wp2_with fail
              refine (H3.out _).mono ?_
              rintro e w5 ⟨rfl, rfl⟩
              go_wp2_with fail
              refine (H2.out w5).mono ?_
              rintro e w6 ⟨rfl, hb6⟩
              have HB6 : Hid (Below w0.heap.size w0 w6) := HB5.out.trans (hb6.mono hs5)
              have hs6 := HB6.out.size
              clear hb6
              go_wp2_with fail
              refine (H1.out w6).mono ?_
              rintro e w7 ⟨rfl, hb7⟩
              have HB7 : Hid (Below w0.heap.size w0 w7) := HB6.out.trans (hb7.mono hs6)
              have hs7 := HB7.out.size
              clear hb7
              go_wp2_with fail
              refine (H4.out w7 HB7.out).mono ?_
              rintro e w8 ⟨rfl, hb8⟩
              have HB8 : Hid (Below w0.heap.size w0 w8) := HB7.out.trans (hb8.mono hs7)
              clear hb8
              have er2 := er.symm
              clear er
              go_wp2
              go_ret2
              exact ⟨rfl, HB8.out⟩
          · obtain rfl : k = 15 := by omega
            have er := HR51.out HO.out
            simp only [Prod.mk.injEq] at er
            obtain ⟨rfl, rfl⟩ := er
            clear HB1c HB2c HCO HJ1 HR01 HR51 HSM1 HO
            go_wp2
            go_ret2
            exact ⟨rfl, HB4.out⟩
end Go.Proofs.Ytckgkncahaicoaa.C
