/-
  Contract of nvt.In; conditions: at most 1073741824 bytes.
-/
import Derived.Test.YtodljopbgppopaaDoorVNvt
import Derived.BigRegion
namespace Go.Proofs.YtodljopbgppopaaDoor.V
open Go.RowKit Go.Lib Go.Proofs.YtodljopbgppopaaDoor

def IState (w : World) (cr : Bool) (l : List UInt8) (s0 s3 s4 : Value) (wr : World) : Prop :=
  ∃ k : Nat, k ≤ l.length ∧ s4 = .int .i64 (k : Int) ∧ s0 = .bool (rd cr (l.take k)).1 ∧ OwnB wr w.heap.size s3 (rd cr (l.take k)).2 ∧ Below w.heap.size w wr

set_option maxHeartbeats 4000000 in
set_option maxRecDepth 100000 in
theorem In_any (cr : Bool) (l : List UInt8) (binary : Bool) (w : World) (hl : l.length ≤ 1073741824) :
    Calls Tryd.prog 5 #[.bool cr, .string ⟨l.toArray⟩, .bool binary] w fun e w' => e = .returned (.tuple #[.bool (rdB binary cr l).1, .string ⟨(rdB binary cr l).2.toArray⟩]) ∧ Below w.heap.size w w' := by
  have hsz := size_mk l
  cases binary with
  | true =>
    rw [show rdB true cr l = (false, flush cr ++ l) from rfl]
    have HF := Hid.mk' (Flush_any cr w)
    have hfl := flush_len cr
    have hfs := size_mk (flush cr)
    have hap := bytes_append (flush cr) l
    generalize (⟨(flush cr ++ l).toArray⟩ : ByteArray) = T at *
    generalize (⟨(flush cr).toArray⟩ : ByteArray) = F at *
    generalize (⟨l.toArray⟩ : ByteArray) = S at *
    go_enter Tryd.func5, Tryd.ntmps5
    go_wp2_with fail
    refine HF.out.mono ?_
    rintro e w1 ⟨rfl, hb1⟩
    have HB := Hid.mk' hb1
    clear hb1
    go_wp2
    go_ret2
    exact ⟨rfl, HB.out⟩
  | false =>
    rw [show rdB false cr l = rd cr l from rfl]
    have HG := Hid.mk' (get_mk l)
    have HS : Hid (IState w cr l (.bool cr) (.slice none 0 0) (.int .i64 0) w) := ⟨0, Nat.zero_le _, rfl, rfl, OwnB.nil _ _, Below.refl _ _⟩
    generalize (⟨l.toArray⟩ : ByteArray) = S at *
    go_enter Tryd.func5, Tryd.ntmps5
    go_wp2_with fail
    go_loopw [0, 8, 17] (fun s0 s3 s8 wr => IState w cr l s0 s3 s8 wr) (fun _ _ i _ => l.length - (RowKit.intOf i).toNat)
    case atStart => exact HS.out
    case round =>
      obtain ⟨k, hk, rfl, rfl, ho, hbl⟩ := hrel
      clear HS
      have HB := Hid.mk' hbl
      have hswr := hbl.size
      clear hbl
      by_cases hlt : k < l.length
      · have hsb := HG.out k hlt (by omega)
        have hsn := rd_snoc cr l k hlt
        have hol := rd_take_len cr l k
        have HSN : Hid (∀ w' v', OwnB w' w.heap.size v' ((rd cr (l.take k)).2 ++ (tk (rd cr (l.take k)).1 l[k]).2) → OwnB w' w.heap.size v' (rd cr (l.take (k + 1))).2) := fun w' v' h => by
          rw [hsn]; exact h
        have HSC : Hid ((rd cr (l.take (k + 1))).1 = (tk (rd cr (l.take k)).1 l[k]).1) := by
          show _ = _
          rw [hsn]
        clear hsn
        have hsb2 : ((S[k]'(by omega)).toNat : Int) = (l[k].toNat : Int) := by rw [hsb]
        clear hsb
        have HT := Hid.mk' (take_any (rd cr (l.take k)).1 l[k] wr w.heap.size u8 (rd cr (l.take k)).2 ho hswr (by omega))
        generalize l[k] = b at *
        generalize (b.toNat : Int) = y at *
        generalize (rd cr (l.take k)).2 = X at *
        generalize (rd cr (l.take k)).1 = c at *
        clear ho
        go_wp2_with fail
        refine HT.out.mono ?_
        rintro e w' ⟨v', rfl, ho', hbl⟩
        have HO := Hid.mk' (HSN.out w' v' ho')
        have HB2 := Hid.mk' (hbl _ _ (Nat.le_refl _) HB.out)
        clear ho' hbl HT HSN
        generalize (tk c b).1 = c2 at *
        go_wp2
        go_roundw
        case rel => exact ⟨k + 1, by omega, by go_num, by rw [HSC.out], HO.out, HB2.out⟩
        case measure => simp [RowKit.intOf]; omega
      · obtain rfl : k = l.length := by omega
        rw [List.take_length] at *
        have hstr := run_str ho
        have hstr2 := run_str (w := wr.drew) ho
        clear ho
        go_wp2_with fail
        go_region
        all_goals
          go_wp2
          go_ret2
          exact ⟨rfl, HB.out.drew⟩
end Go.Proofs.YtodljopbgppopaaDoor.V
