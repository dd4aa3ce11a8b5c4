/-
  Contracts of farref.PageByte, farref.PageRead, farref.Bytes at one byte and farref.PageWrite: the document's answers are the plain ones; conditions: at most 1073741824 bytes or runes.
-/
import Derived.Test.YtmniifmgliklnaaDoorGRef
namespace Go.Proofs.YtmniifmgliklnaaDoor.G
open Go.RowKit Go.Lib Go.Proofs.YtmniifmgliklnaaDoor

set_option maxHeartbeats 1000000 in
theorem Runes_bad (p : Int) (w : World) (h : isP p = false) :
    Calls Tryd.prog 10 #[.int .i64 p] w fun e w' => e = .returned (.slice none 0 0) ∧ w' = w := by
  have HT := Hid.mk' (Between_any p w)
  rw [h] at HT
  go_enter Tryd.func10, Tryd.ntmps10
  go_wp2_with fail
  refine HT.out.mono ?_
  rintro e w1 ⟨rfl, rfl⟩
  go_wp2
  go_ret
  exact ⟨rfl, rfl⟩

theorem full_get (p : Int) (k : Nat) (h2 : k < (full p).length) : (full p)[k]'h2 = sg p k := by simp [full]
theorem RdI.front {w : World} {a : Option Addr} {n c : Nat} {l : List Int} (h : RdI w (.slice a n c) l) (m : Nat) (hm : m ≤ l.length) : RdI w (.slice a m c) (l.take m) := by
  obtain ⟨a', c', e, hc, hr⟩ := h
  simp only [Value.slice.injEq] at e
  obtain ⟨rfl, rfl, rfl⟩ := e
  have hl : (l.take m).length = m := by simp; omega
  refine ⟨a, c, by rw [hl], by omega, ?_⟩
  rcases hr with rfl | ⟨b, off, e2, t, hb⟩
  · exact .inl (by simp)
  · refine .inr ⟨b, off, e2, fun j hj => ?_, hb⟩
    rw [t j (by omega)]
    simp

set_option maxHeartbeats 4000000 in
theorem PageByte_any (p r : Int) (w : World) (h : isP p = true) :
    Calls Tryd.prog 11 #[.int .i64 p, .int .i64 r] w fun e w' => e = .returned (.int .i64 (num (byF p r))) ∧ Below w.heap.size w w' := by
  have HR := Hid.mk' (Runes_any p w h)
  have HX : Hid (∀ W v, RdI W v ((full p).take (sz p)) → Calls Tryd.prog 22 #[v, .int .i64 r] W fun e w' => e = .returned (.int .i64 (num (byF p r))) ∧ w' = W) := fun W v hv => by
    have hz := sz_le p
    have hl : ((full p).take (sz p)).length = sz p := by rw [List.length_take, full_len]; omega
    have hg : ∀ k (hk : k < ((full p).take (sz p)).length), ((full p).take (sz p))[k] = sg p k := fun k hk => by
      rw [List.getElem_take]
      exact full_get p k _
    refine Index_any W v ((full p).take (sz p)) r (byF p r) hv (by omega) (fun k hk he hn => ?_) (fun hn => ?_)
    · rw [hg] at he
      exact byF_first (by omega) he (fun a ha e => hn a ha (by rw [hg]; exact e))
    · exact byF_none fun b hb e => hn b (by omega) (by rw [hg]; exact e)
  generalize num (byF p r) = N at *
  by_cases h2 : p = 2
  · subst h2
    go_enter Tryd.func11, Tryd.ntmps11
    go_wp2_with fail
    refine HR.out.mono ?_
    rintro e w1 ⟨rfl, ho, hb1⟩
    have HB := Hid.mk' hb1
    have HV : Hid (RdI w1 (.slice (some ⟨w.heap.size, 0, none⟩) 256 256) ((full 2).take (sz 2))) := (RdI.own ho).front 256 (by rw [full_len]; omega)
    have HX1 := Hid.mk' (HX.out w1 _ HV.out)
    clear hb1 ho HR HX HV
    go_wp2_with fail
    refine HX1.out.mono ?_
    rintro e w2 ⟨rfl, rfl⟩
    go_wp2
    go_ret
    exact ⟨rfl, HB.out⟩
  · have hz : sz p = 128 := if_neg h2
    go_enter Tryd.func11, Tryd.ntmps11
    go_wp2_with fail
    refine HR.out.mono ?_
    rintro e w1 ⟨rfl, ho, hb1⟩
    have HB := Hid.mk' hb1
    have HV : Hid (RdI w1 (.slice (some ⟨w.heap.size, 0, none⟩) 128 256) ((full p).take (sz p))) := by
      rw [hz]
      exact (RdI.own ho).front 128 (by rw [full_len]; omega)
    have HX1 := Hid.mk' (HX.out w1 _ HV.out)
    clear hb1 ho HR HX HV
    go_wp2_with fail
    refine HX1.out.mono ?_
    rintro e w2 ⟨rfl, rfl⟩
    go_wp2
    go_ret
    exact ⟨rfl, HB.out⟩

def DState (w : World) (p : Int) (l : List UInt8) (s7 s18 : Value) (wr : World) : Prop :=
  ∃ k : Nat, k ≤ l.length ∧ s18 = .int .i64 (k : Int) ∧ OwnI wr w.heap.size s7 (rdP p (l.take k)) ∧ Below w.heap.size w wr

theorem below_bytes (w : World) (e : TypeId) (s : ByteArray) : Below w.heap.size w (bytesWorld w e s) :=
  ⟨rfl, rfl, rfl, by rw [bytesWorld_size]; omega, fun k hk => bytesWorld_at_old w e s k hk⟩

set_option maxHeartbeats 4000000 in
set_option maxRecDepth 100000 in
theorem PageRead_bad (p : Int) (S : ByteArray) (w : World) (h : isP p = false) :
    Calls Tryd.prog 13 #[.int .i64 p, .string S] w fun e w' => e = .returned (.tuple #[.slice none 0 0, .int .i64 6]) ∧ w' = w := by
  have HR := Hid.mk' (Runes_bad p w h)
  go_enter Tryd.func13, Tryd.ntmps13
  go_wp2_with fail
  refine HR.out.mono ?_
  rintro e w1 ⟨rfl, rfl⟩
  go_wp2
  go_ret2
  exact ⟨rfl, rfl⟩

set_option maxHeartbeats 4000000 in
set_option maxRecDepth 100000 in
theorem PageRead_any (p : Int) (l : List UInt8) (w : World) (h : isP p = true) (hl : l.length ≤ 1073741824) :
    Calls Tryd.prog 13 #[.int .i64 p, .string ⟨l.toArray⟩] w fun e w' => ∃ v, e = .returned (.tuple #[v, .int .i64 0]) ∧ OwnI w' w.heap.size v (rdP p l) ∧ Below w.heap.size w w' := by
  have HR := Hid.mk' (Runes_any p w h)
  have hsz := size_mk l
  have HCE : Hid (∀ (W : World) j (hj : j < l.length), (bytesWorld W 5 ⟨l.toArray⟩).cell? ⟨W.heap.size, j, none⟩ = some (.int .u8 (l[j].toNat : Int))) := fun W j hj => by
    rw [bytesWorld_cell _ _ _ _ (by rw [size_mk]; exact hj)]
    simp [hj]
  have hcv := fun W : World => Lib.run_convert_string_bytes (P := Tryd.prog) W 9 45 5 ⟨l.toArray⟩ Tryd.underlying9 Tryd.underlying45 Tryd.underlying5
  generalize (⟨l.toArray⟩ : ByteArray) = S at *
  go_enter Tryd.func13, Tryd.ntmps13
  go_wp2_with fail
  refine HR.out.mono ?_
  rintro e w1 ⟨rfl, ho1, hb1⟩
  have HB1 := Hid.mk' hb1
  have hs1 := hb1.size
  have hbb := below_bytes w1 5 S
  have HB2 : Hid (Below w.heap.size w (bytesWorld w1 5 S)) := hb1.trans (hbb.mono hs1)
  have HC2 := Hid.mk' (HCE.out w1)
  have hsz2 : w1.heap.size < (bytesWorld w1 5 S).heap.size := by rw [bytesWorld_size]; omega
  have hg1 : w.heap.size < w1.heap.size := (ho1.lt _ rfl).2
  have hcv1 := hcv w1
  rw [hsz] at hcv1
  have HF : Hid (∀ j, j < 256 → (bytesWorld w1 5 S).cell? ⟨w.heap.size, j, none⟩ = some (.int .i64 (sg p j))) := fun j hj => by
    rw [bytesWorld_old _ _ _ _ hg1]
    have := ho1.cells (g := w.heap.size) rfl j (.int .i64 (sg p j)) (by simp [icells, full, hj])
    have hadd : (⟨w.heap.size, 0, none⟩ : Addr).add j = ⟨w.heap.size, j, none⟩ := by unfold Addr.add; split <;> simp_all
    rw [hadd] at this
    exact this
  generalize hW2 : bytesWorld w1 5 S = w2 at *
  have HS0 : Hid (DState w2 p l (.slice none 0 0) (.int .i64 0) w2) := ⟨0, Nat.zero_le _, rfl, OwnI.nil _ _, Below.refl _ _⟩
  have hge := grownCap_ge w1 l.length 0 5
  generalize grownCap w1 l.length 0 5 = cap at *
  clear hW2 hb1 hbb ho1 hcv HR HCE
  go_wp2_with fail
  go_loopw [7, 18] (fun s7 s18 wr => DState w2 p l s7 s18 wr) (fun _ i _ => l.length - (RowKit.intOf i).toNat)
  case atStart => exact HS0.out
  case round =>
    obtain ⟨k, hk, rfl, ho, hbl⟩ := hrel
    clear HS0 hcv1
    have HB := Hid.mk' hbl
    have hswr := hbl.size
    by_cases hlt : k < l.length
    · have c1 : wr.cell? ⟨w1.heap.size, k, none⟩ = some (.int .u8 (l[k].toNat : Int)) := (hbl.cell (p := ⟨w1.heap.size, k, none⟩) (by show w1.heap.size < _; omega)).trans (HC2.out k hlt)
      have hbn := l[k].toNat_lt
      have c2 : wr.cell? ⟨w.heap.size, l[k].toNat, none⟩ = some (.int .i64 (sg p l[k].toNat)) := (hbl.cell (p := ⟨w.heap.size, l[k].toNat, none⟩) (by show w.heap.size < _; omega)).trans (HF.out _ hbn)
      have hsn : rdP p (l.take (k + 1)) = rdP p (l.take k) ++ [sg p l[k].toNat] := map_snoc _ l k hlt
      have hln : (rdP p (l.take k)).length ≤ k := by rw [rdP_length]; exact List.length_take_le k l
      have HSN : Hid (∀ w' v', OwnI w' w2.heap.size v' (rdP p (l.take k) ++ [sg p l[k].toNat]) → OwnI w' w2.heap.size v' (rdP p (l.take (k + 1)))) := fun w' v' h => by rw [hsn]; exact h
      clear hsn hbl
      generalize sg p l[k].toNat = x at *
      have HW : Hid (#[.int .i64 x] = (icells [x]).toArray) := Hid.mk' rfl
      generalize l[k].toNat = y at *
      generalize rdP p (l.take k) = X at *
      go_wp2_with (at_builtin; refine wpList_append_i _ (by rfl) _ _ rfl w2.heap.size u7 X [x] rfl ho _ HW.out _ _ rfl rfl (by simp) hswr ?c1 ?_)
      case c1 => simp; omega
      intro v' w' ho' hbl
      have HO := Hid.mk' (HSN.out w' v' ho')
      have HB2' := Hid.mk' (hbl _ _ (Nat.le_refl _) HB.out)
      clear ho' hbl ho
      go_wp2
      go_roundw
      case rel => exact ⟨k + 1, by omega, by go_num, HO.out, HB2'.out⟩
      case measure => simp [RowKit.intOf]; omega
    · obtain rfl : k = l.length := by omega
      rw [List.take_length] at ho
      have HO : Hid (OwnI wr w.heap.size u7 (rdP p l)) := by
        refine ⟨ho.1, ?_⟩
        rcases ho.2 with hn | ⟨g, c, cur, fz, e, hb, rest⟩
        · exact .inl hn
        · exact .inr ⟨g, c, cur, fz, e, by omega, rest⟩
      have HB3 : Hid (Below w.heap.size w wr) := HB2.out.trans (hbl.mono (by omega))
      clear ho hbl
      go_wp2
      go_ret2
      exact ⟨_, rfl, HO.out, HB3.out⟩

set_option maxHeartbeats 8000000 in
set_option maxRecDepth 100000 in
theorem Bytes_one (x : Nat) (w : World) (hx : x < 256) :
    Calls Tryd.prog 23 #[.slice (some ⟨w.heap.size, 0, none⟩) 1 1] (w.alloc (.cells #[.int .i64 (x : Int)] 3)) fun e w' => e = .returned (.string ⟨#[x.toUInt8]⟩) ∧ Below w.heap.size w w' := by
  obtain ⟨i0, hi, hz0, hz1, hz2⟩ := info_parts infoByte
  have hcl : (w.alloc (.cells #[.int .i64 (x : Int)] 3)).cell? ⟨w.heap.size, 0, none⟩ = some (.int .i64 (x : Int)) := by
    rw [cell_of_row _ _ _ _ _ _ (MapKept.heap_alloc w _).1]; rfl
  have HB0 : Hid (Below w.heap.size w (w.alloc (.cells #[.int .i64 (x : Int)] 3))) := (Below.refl _ _).alloc (Nat.le_refl _) _
  have hsz : w.heap.size < (w.alloc (.cells #[.int .i64 (x : Int)] 3)).heap.size := by simp
  generalize w.alloc (.cells #[.int .i64 (x : Int)] 3) = w0 at *
  have hmk := run_makeSlice w0 45 5 i0 (.int .u8 0) Tryd.underlying45 hi hz0 .i64 .i64 1 1 (by omega) (by omega) (by rw [hz1]; decide) (by rw [hz2]; decide) (by omega)
  rw [hz1] at hmk
  have hmk2 : madeCells (Value.int .u8 0).cells (1 * 1) = #[.int .u8 0] := by
    apply Array.ext
    · simp [madeCells]
    · intro i h1 h2
      have : i = 0 := by simp at h2; omega
      subst this
      simp [madeCells, Value.cells]
  rw [show (1 : Int).toNat * 1 = 1 * 1 from rfl, hmk2] at hmk
  have hx1 : (x : Int) < 256 := by omega
  have hx2 : (0 : Int) ≤ (x : Int) := by omega
  have c1 : (w0.alloc (.cells #[.int .u8 0] 5)).cell? ⟨w.heap.size, 0, none⟩ = some (.int .i64 (x : Int)) := by
    rw [World.cell?_alloc_past (hn := by omega)]; exact hcl
  have hxb : ((x.toUInt8).toNat : Int) = (x : Int) := by
    simp only [Nat.toUInt8, UInt8.toNat_ofNat']
    omega
  have hown : OwnB (w0.alloc (.cells #[.int .u8 (x : Int)] 5)) 0 (.slice (some ⟨w0.heap.size, 0, none⟩) 1 1) [x.toUInt8] := by
    refine ⟨rfl, .inr ⟨w0.heap.size, 1, #[.int .u8 (x : Int)], (0, 0), rfl, Nat.zero_le _, (MapKept.heap_alloc w0 _).1, .inl rfl, Nat.le_refl _, by unfold maxLen; omega, rfl, ?_⟩⟩
    simp only [bcells, List.map_cons, List.map_nil, hxb]; rfl
  have hstr := run_str hown
  have HB1 : Hid (Below w.heap.size w (w0.alloc (.cells #[.int .u8 (x : Int)] 5))) := HB0.out.alloc (by omega) _
  clear hown hxb hcl
  generalize (x : Int) = y at *
  go_enter Tryd.func23, Tryd.ntmps23
  go_wp2_with fail
  go_loopw [11] (fun i wr => (i = .int .i64 0 ∧ wr = w0.alloc (.cells #[.int .u8 0] 5)) ∨ (i = .int .i64 1 ∧ wr = w0.alloc (.cells #[.int .u8 y] 5))) (fun i _ => 1 - (RowKit.intOf i).toNat)
  case atStart => exact .inl ⟨rfl, rfl⟩
  case round =>
    clear hmk
    rcases hrel with ⟨rfl, rfl⟩ | ⟨rfl, rfl⟩
    · go_wp2
      go_roundw
      case rel => exact .inr ⟨by go_num, trivial⟩
      case measure => simp [RowKit.intOf]
    · go_wp2
      go_ret
      exact ⟨rfl, HB1.out⟩
end Go.Proofs.YtmniifmgliklnaaDoor.G
