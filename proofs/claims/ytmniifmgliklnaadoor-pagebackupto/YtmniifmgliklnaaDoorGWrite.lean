/-
  Contract of page.Write over a slice of ints that is read, and of farkeep.pageLives; conditions: the table page.lineSigns holds what its initialiser lays; at most 2^44 runes.
-/
import Derived.Test.YtmniifmgliklnaaDoorGText
namespace Go.Proofs.YtmniifmgliklnaaDoor.G
open Go.RowKit Go.Lib Go.Proofs.YtmniifmgliklnaaDoor

theorem below_drewN {B : Nat} {a w : World} (h : Below B a w) (n : Nat) : Below B a (w.drewN n) := ⟨h.os, h.tape, h.output, h.size, h.block⟩
/-- a slice of ints, read -/
def RdI (w : World) (v : Value) (l : List Int) : Prop :=
  ∃ a cap, v = .slice a l.length cap ∧ l.length ≤ cap ∧ (l = [] ∨ ∃ b off, a = some ⟨b, off, none⟩ ∧ (∀ j (h : j < l.length), w.cell? ⟨b, off + j, none⟩ = some (.int .i64 l[j])) ∧ b < w.heap.size)
theorem RdI.below {w w' : World} {v : Value} {l : List Int} (h : RdI w v l) (hb : Below w.heap.size w w') : RdI w' v l := by
  obtain ⟨a, cap, e, hc, hr⟩ := h
  refine ⟨a, cap, e, hc, ?_⟩
  rcases hr with h | ⟨b, off, e2, hT, hbl⟩
  · exact .inl h
  · exact .inr ⟨b, off, e2, fun j h => (hb.cell (p := ⟨b, off + j, none⟩) hbl).trans (hT j h), by have := hb.size; omega⟩
theorem RdI.own {w : World} {base : Nat} {v : Value} {l : List Int} (h : OwnI w base v l) : RdI w v l := by
  unfold OwnI at h
  rcases h.form with ⟨rfl, e⟩ | ⟨g, cap, rfl, _, hg, hc⟩
  · have : l = [] := List.length_eq_zero_iff.1 e
    subst this
    exact ⟨none, 0, rfl, by simp, .inl rfl⟩
  · refine ⟨_, cap, rfl, hc, .inr ⟨g, 0, rfl, fun j hj => ?_, hg⟩⟩
    have := h.cells (g := g) rfl j (.int .i64 l[j]) (by simp [icells, hj])
    have hadd : (⟨g, 0, none⟩ : Addr).add j = ⟨g, j, none⟩ := by unfold Addr.add; split <;> simp_all
    rw [hadd] at this
    rw [Nat.zero_add]; exact this

/-- the bytes of runes -/
def wrP (p : Int) (l : List Int) : List UInt8 := l.map (wb p)
theorem wrP_length (p : Int) (l : List Int) : (wrP p l).length = l.length := by simp [wrP]

def WState (w : World) (p : Int) (l : List Int) (s7 s8 s18 : Value) (wr : World) : Prop :=
  ∃ k : Nat, k ≤ l.length ∧ s18 = .int .i64 (k : Int) ∧ s8 = .int .i64 (lost p (l.take k) : Int) ∧ OwnB wr w.heap.size s7 (wrP p (l.take k)) ∧ Below w.heap.size w wr

set_option maxHeartbeats 4000000 in
set_option maxRecDepth 100000 in
theorem Write_bad (p : Int) (a : Option Addr) (n c : Nat) (w : World) (h : isP p = false) :
    Calls Tryd.prog 14 #[.int .i64 p, .slice a n c] w fun e w' => e = .returned (.tuple #[.string ⟨#[]⟩, .int .i64 0, .int .i64 6]) ∧ w' = w := by
  have HP := Hid.mk' (isPage_any p w)
  rw [h] at HP
  go_enter Tryd.func14, Tryd.ntmps14
  go_wp2_with fail
  refine HP.out.mono ?_
  rintro e w1 ⟨rfl, rfl⟩
  go_wp2
  exact bodyPost_ret (v := .tuple #[.string ⟨#[]⟩, .int .i64 0, .int .i64 6]) (by simp [results, Tryd.results14, go_sem]) rfl ⟨rfl, rfl⟩

set_option maxHeartbeats 4000000 in
set_option maxRecDepth 100000 in
theorem Write_none (p : Int) (a : Option Addr) (c : Nat) (w : World) (h : isP p = true) :
    Calls Tryd.prog 14 #[.int .i64 p, .slice a 0 c] w fun e w' => e = .returned (.tuple #[.string ⟨#[]⟩, .int .i64 0, .int .i64 0]) ∧ Below w.heap.size w w' := by
  have HP := Hid.mk' (isPage_any p w)
  rw [h] at HP
  have hstr := run_str (OwnB.nil w 0)
  go_enter Tryd.func14, Tryd.ntmps14
  go_wp2_with fail
  refine HP.out.mono ?_
  rintro e w1 ⟨rfl, rfl⟩
  go_wp2_with fail
  go_loopw [7, 8, 18] (fun s7 s8 s18 wr => s7 = .slice none 0 0 ∧ s8 = .int .i64 0 ∧ s18 = .int .i64 0 ∧ wr = w1) (fun _ _ _ _ => 0)
  case atStart => exact ⟨rfl, rfl, rfl, rfl⟩
  case round =>
    obtain ⟨rfl, rfl, rfl, rfl⟩ := hrel
    go_wp2
    exact bodyPost_ret (v := .tuple #[.string ⟨#[]⟩, .int .i64 0, .int .i64 0]) (by simp [results, Tryd.results14, go_sem]) rfl ⟨rfl, Below.refl _ _⟩

set_option maxHeartbeats 4000000 in
set_option maxRecDepth 100000 in
theorem Write_some (p : Int) (l : List Int) (b off cap : Nat) (w : World) (h : isP p = true) (hT : Tab w) (hcl : ∀ j (h : j < l.length), w.cell? ⟨b, off + j, none⟩ = some (.int .i64 l[j])) (hb : b < w.heap.size) (hl : l.length ≤ 17592186044416) :
    Calls Tryd.prog 14 #[.int .i64 p, .slice (some ⟨b, off, none⟩) l.length cap] w fun e w' => e = .returned (.tuple #[.string ⟨(wrP p l).toArray⟩, .int .i64 (lost p l : Int), .int .i64 0]) ∧ Below w.heap.size w w' := by
  have HP := Hid.mk' (isPage_any p w)
  rw [h] at HP
  have HY : Hid (∀ wr, Below w.heap.size w wr → ∀ r : Int, Calls Tryd.prog 9 #[.int .i64 p, .int .i64 r] wr fun e w' => e = .returned (match byF p r with | some b => .tuple #[.int .u8 (b : Int), .int .i64 0] | none => .tuple #[.int .u8 0, .int .i64 6]) ∧ w' = wr) := fun wr hb r => by
    have := Byte_any p r wr (hT.below hb)
    rw [if_pos h] at this
    exact this
  have HS0 : Hid (WState w p l (.slice none 0 0) (.int .i64 0) (.int .i64 0) w) := ⟨0, Nat.zero_le _, rfl, rfl, OwnB.nil _ _, Below.refl _ _⟩
  have HC := Hid.mk' hcl
  clear hcl hT
  go_enter Tryd.func14, Tryd.ntmps14
  go_wp2_with fail
  refine HP.out.mono ?_
  rintro e w1 ⟨rfl, rfl⟩
  go_wp2_with fail
  go_loopw [7, 8, 18] (fun s7 s8 s18 wr => WState w1 p l s7 s8 s18 wr) (fun _ _ i _ => l.length - (RowKit.intOf i).toNat)
  case atStart => exact HS0.out
  case round =>
    obtain ⟨k, hk, rfl, rfl, ho, hbl⟩ := hrel
    clear HS0
    have HB := Hid.mk' hbl
    have hswr := hbl.size
    by_cases hlt : k < l.length
    · have hcell : wr.cell? ⟨b, off + k, none⟩ = some (.int .i64 l[k]) := (hbl.cell (p := ⟨b, off + k, none⟩) hb).trans (HC.out k hlt)
      have HK := Hid.mk' (HY.out wr hbl l[k])
      have hsn : wrP p (l.take (k + 1)) = wrP p (l.take k) ++ [wb p l[k]] := map_snoc _ l k hlt
      have hln : (wrP p (l.take k)).length ≤ k := by rw [wrP_length]; exact List.length_take_le k l
      have hlo : lost p (l.take k) ≤ k := Nat.le_trans (lost_le p _) (List.length_take_le k l)
      have hls := lost_snoc p l k hlt
      cases hby : byF p l[k] with
      | some c =>
        rw [hby] at HK
        dsimp only at HK
        rw [if_neg (by rw [hby]; simp)] at hls
        have hc := wb_nat hby
        have HSN : Hid (∀ w' v', OwnB w' w1.heap.size v' (wrP p (l.take k) ++ [wb p l[k]]) → OwnB w' w1.heap.size v' (wrP p (l.take (k + 1)))) := fun w' v' h => by rw [hsn]; exact h
        have HLS := Hid.mk' hls
        clear hsn hbl hls hby
        generalize wb p l[k] = y at *
        subst hc
        generalize wrP p (l.take k) = X at *
        generalize lost p (l.take k) = n at *
        have HW : Hid (#[.int .u8 (y.toNat : Int)] = (bcells [y]).toArray) := Hid.mk' rfl
        generalize (y.toNat : Int) = z at *
        go_wp2_with fail
        refine HK.out.mono ?_
        rintro e w2 ⟨rfl, rfl⟩
        go_wp2_with (at_builtin; refine wpList_append_b _ (by rfl) _ _ rfl w1.heap.size u7 X [y] rfl ho _ HW.out _ _ rfl rfl (by simp) hswr ?c1 ?_)
        case c1 => simp; omega
        intro v' w' ho' hbl
        have HO := Hid.mk' (HSN.out w' v' ho')
        have HB2 := Hid.mk' (hbl _ _ (Nat.le_refl _) HB.out)
        clear ho' hbl ho
        go_wp2
        go_roundw
        case rel => exact ⟨k + 1, by omega, by go_num, by rw [HLS.out]; go_num, HO.out, HB2.out⟩
        case measure => simp [RowKit.intOf]; omega
      | none =>
        rw [hby] at HK
        rw [if_pos hby] at hls
        have hc := wb_q hby
        rw [hc] at hsn
        have HSN : Hid (∀ w' v', OwnB w' w1.heap.size v' (wrP p (l.take k) ++ [63]) → OwnB w' w1.heap.size v' (wrP p (l.take (k + 1)))) := fun w' v' h => by rw [hsn]; exact h
        have HLS := Hid.mk' hls
        clear hsn hbl hls hby hc
        generalize wrP p (l.take k) = X at *
        generalize lost p (l.take k) = n at *
        have HW : Hid (#[.int .u8 63] = (bcells [63]).toArray) := Hid.mk' rfl
        go_wp2_with fail
        refine HK.out.mono ?_
        rintro e w2 ⟨rfl, rfl⟩
        go_wp2_with (at_builtin; refine wpList_append_b _ (by rfl) _ _ rfl w1.heap.size u7 X [63] rfl ho _ HW.out _ _ rfl rfl (by simp) hswr ?c1 ?_)
        case c1 => simp; omega
        intro v' w' ho' hbl
        have HO := Hid.mk' (HSN.out w' v' ho')
        have HB2 := Hid.mk' (hbl _ _ (Nat.le_refl _) HB.out)
        clear ho' hbl ho
        go_wp2
        go_roundw
        case rel => exact ⟨k + 1, by omega, by go_num, by rw [HLS.out]; go_num, HO.out, HB2.out⟩
        case measure => simp [RowKit.intOf]; omega
    · obtain rfl : k = l.length := by omega
      rw [List.take_length] at ho
      rw [List.take_length]
      have hstr := run_str ho
      clear ho hbl
      go_wp2
      exact bodyPost_ret (v := .tuple #[.string ⟨(wrP p l).toArray⟩, .int .i64 (lost p l : Int), .int .i64 0]) (by simp [results, Tryd.results14, go_sem]) rfl ⟨rfl, HB.out⟩

theorem Write_any (p : Int) (v : Value) (l : List Int) (w : World) (h : isP p = true) (hT : Tab w) (hv : RdI w v l) (hl : l.length ≤ 17592186044416) :
    Calls Tryd.prog 14 #[.int .i64 p, v] w fun e w' => e = .returned (.tuple #[.string ⟨(wrP p l).toArray⟩, .int .i64 (lost p l : Int), .int .i64 0]) ∧ Below w.heap.size w w' := by
  obtain ⟨a, cap, rfl, hc, hr⟩ := hv
  rcases hr with rfl | ⟨b, off, rfl, hC, hb⟩
  · exact Write_none p a cap w h
  · exact Write_some p l b off cap w h hT hC hb hl

theorem lives_by : byF 3 9472 = some 113 := by decide +kernel

set_option maxHeartbeats 1000000 in
theorem lives_any (w : World) (hT : Tab w) : Calls Tryd.prog 17 #[] w fun e w' => e = .returned (.bool true) ∧ w' = w := by
  have HR := Hid.mk' (Rune_any 3 113 w hT)
  have HY := Hid.mk' (Byte_any 3 9472 w hT)
  rw [if_pos (by decide), lives_by] at HY
  rw [if_pos (by decide), if_pos (by decide), show sg 3 (113 : UInt8).toNat = 9472 by decide] at HR
  go_enter Tryd.func17, Tryd.ntmps17
  go_wp2_with fail
  refine HR.out.mono ?_
  rintro e w1 ⟨rfl, rfl⟩
  go_wp2_with fail
  refine HY.out.mono ?_
  rintro e w1 ⟨rfl, rfl⟩
  go_wp2
  go_ret
  exact ⟨rfl, rfl⟩
end Go.Proofs.YtmniifmgliklnaaDoor.G
