/-
  Contracts of slc.none, agreed and held: threes of bytes; conditions: held: 38 bytes, a function from 0 to 18.
-/
import Derived.Test.YtfipmggdpigbkaaKCells
import Derived.BigQuiet
import Derived.Deep.RegionHeld3
namespace Go.Proofs.Ytfipmggdpigbkaa.K
open Go.RowKit Go.Proofs.Ytfipmggdpigbkaa Go.Proofs.Ytfipmggdpigbkaa.W Go.Proofs.Ytfipmggdpigbkaa.Q

/-- the cells of a three of bytes -/
def tc (f g c : UInt8) : List Value := [.int .u8 (f.toNat : Int), .int .u8 (g.toNat : Int), .int .u8 (c.toNat : Int)]
theorem tc_one (f g c : UInt8) : ∀ u ∈ tc f g c, u.oneCell' = true := by
  intro u hu
  simp [tc] at hu
  rcases hu with rfl | rfl | rfl <;> rfl
theorem bcells1 (k : List UInt8) : ∀ u ∈ bcells k, u.oneCell' = true := bcells_one k
theorem sizeT3 (f g c : UInt8) : (Try.prog.info? 41).map (·.size) = some (tc f g c).length := sizeT

theorem exec_loadT (ρ : Operand → Value) (x : Operand) (dst : Option Tmp) (t : TypeId) (pos : String) (af : Array Edge) (g : Option (Nat × Bool)) (w : World) (h : Lies w (ρ x) 3) :
    (execOp ρ { dst := dst, op := .load 41 x, type := t, pos := pos, after := af, guard := g }).run Try.prog w = .ok (.value (.agg (Q.rowAt w (ρ x) 3).toArray)) w :=
  exec_load 41 3 _ Try.underlying41 rfl sizeT ρ x dst t pos af g w h
theorem exec_storeT (ρ : Operand → Value) (x y : Operand) (dst : Option Tmp) (t : TypeId) (pos : String) (af : Array Edge) (g : Option (Nat × Bool)) (w : World) (h : Lies w (ρ x) 3) (hy : Holds (ρ y) 3) :
    (execOp ρ { dst := dst, op := .store 41 x y, type := t, pos := pos, after := af, guard := g }).run Try.prog w = .ok .skip (putAt w (ρ x) (ρ y)) :=
  exec_store 41 3 sizeT ρ x y dst t pos af g w h hy
theorem exec_loadK (ρ : Operand → Value) (x : Operand) (dst : Option Tmp) (t : TypeId) (pos : String) (af : Array Edge) (g : Option (Nat × Bool)) (w : World) (h : Lies w (ρ x) 38) :
    (execOp ρ { dst := dst, op := .load 24 x, type := t, pos := pos, after := af, guard := g }).run Try.prog w = .ok (.value (.agg (Q.rowAt w (ρ x) 38).toArray)) w :=
  exec_load 24 38 _ Try.underlying24 rfl sizeK ρ x dst t pos af g w h
theorem exec_storeK (ρ : Operand → Value) (x y : Operand) (dst : Option Tmp) (t : TypeId) (pos : String) (af : Array Edge) (g : Option (Nat × Bool)) (w : World) (h : Lies w (ρ x) 38) (hy : Holds (ρ y) 38) :
    (execOp ρ { dst := dst, op := .store 24 x y, type := t, pos := pos, after := af, guard := g }).run Try.prog w = .ok .skip (putAt w (ρ x) (ρ y)) :=
  exec_store 24 38 sizeK ρ x y dst t pos af g w h hy
theorem T3.holds (f g c : UInt8) : Holds (T3 f g c) 3 := ⟨tc f g c, rfl, rfl, tc_one f g c⟩
theorem KV.holds (k : List UInt8) (hk : k.length = 38) : Holds (KV k) 38 := ⟨bcells k, rfl, by rw [bcells_length, hk], bcells_one k⟩

/-- a block of n cells -/
def HasBox (w : World) (b : Nat) (t : TypeId) (n : Nat) : Prop := ∃ q : List Value, Box w b t q ∧ q.length = n
theorem HasBox.lies {w : World} {b : Nat} {t : TypeId} {n : Nat} (h : HasBox w b t n) : Lies w (.pointer (some ⟨b, 0, none⟩)) n := by
  obtain ⟨q, hq, hn⟩ := h
  exact hq.lies0 hn
theorem HasBox.later {w w' : World} {b : Nat} {t : TypeId} {n : Nat} (h : HasBox w b t n) (hb : Below w.heap.size w w') : HasBox w' b t n := by
  obtain ⟨q, hq, hn⟩ := h
  exact ⟨q, hq.later hb, hn⟩
theorem HasBox.lt {w : World} {b : Nat} {t : TypeId} {n : Nat} (h : HasBox w b t n) : b < w.heap.size := by
  obtain ⟨q, hq, hn⟩ := h
  exact hq.lt
theorem HasBox.put {w : World} {b : Nat} {t : TypeId} {n : Nat} (h : HasBox w b t n) (cs : List Value) (hn : cs.length = n) : Stored w (putAt w (.pointer (some ⟨b, 0, none⟩)) (.agg cs.toArray)) b t cs := by
  obtain ⟨q, hq, hl⟩ := h
  exact hq.putAt cs (by omega)
/-- what the walk of a drawn region with a store keeps -/
theorem kept9 {w0 wX w' : World} {b : Nat} {t : TypeId} {n : Nat} (hS : Below b w0 wX ∧ HasBox wX b t n) (hb : Below wX.heap.size wX w') : Below b w0 w' ∧ HasBox w' b t n :=
  ⟨hS.1.trans (hb.mono (Nat.le_of_lt hS.2.lt)), hS.2.later hb⟩
theorem kept9s {w0 wX : World} {b : Nat} {t : TypeId} {n : Nat} {cs : List Value} (hS : Below b w0 wX ∧ HasBox wX b t n) (hn : cs.length = n) : Below b w0 (putAt wX (.pointer (some ⟨b, 0, none⟩)) (.agg cs.toArray)) ∧ HasBox (putAt wX (.pointer (some ⟨b, 0, none⟩)) (.agg cs.toArray)) b t n :=
  have := hS.2.put cs hn
  ⟨this.below _ _ (Nat.le_refl _) hS.1, cs, this.box, hn⟩

set_option maxHeartbeats 4000000 in
theorem none_any (f : UInt8) (w : World) : Calls Try.prog 22 #[.int .u8 (f.toNat : Int)] w fun e w' => e = .returned (T3 f 0 0) ∧ Below w.heap.size w w' := by
  have HZ := Hid.mk' zeroT
  have HO := Hid.mk' (tc_one f 0 0)
  have HV : Hid ((tc f 0 0).toArray = #[.int .u8 (f.toNat : Int), .int .u8 0, .int .u8 0]) := rfl
  have HL : Hid ((tc f 0 0).length = 3) := rfl
  go_enter Try.func22, Try.ntmps22
  go_wp2_with (refine wpList_alloc (tc 0 0 0) 41 HZ.out rfl rfl ?_)
  intro w1 m1
  have HB := Hid.mk' (m1.below _ _ (Nat.le_refl _) (Below.refl _ w))
  have HX := Hid.mk' m1.box
  clear m1
  go_wp2_with (refine wpList_store_box 41 41 (tc 0 0 0) (tc f 0 0) w.heap.size (sizeT3 _ _ _) HO.out HX.out rfl rfl _ _ rfl rfl rfl ?_)
  intro w2 s2
  go_wp2
  exact ret_box Try.results22 41 (tc f 0 0) w.heap.size _ Try.underlying41 rfl (sizeT3 _ _ _) rfl s2.box rfl ⟨rfl, s2.below _ _ (Nat.le_refl _) HB.out⟩

theorem or128 (L : UInt8) (h : L.toNat ≤ 3) : bits .or .u8 (L.toNat : Int) 128 = ((L ||| 128).toNat : Int) ∧ L ||| 128 = 128 + L := by
  have e : L = 0 ∨ L = 1 ∨ L = 2 ∨ L = 3 := by
    have h0 : L.toNat = 0 ∨ L.toNat = 1 ∨ L.toNat = 2 ∨ L.toNat = 3 := by omega
    rcases h0 with h | h | h | h
    · exact .inl (UInt8.toNat_inj.1 h)
    · exact .inr (.inl (UInt8.toNat_inj.1 h))
    · exact .inr (.inr (.inl (UInt8.toNat_inj.1 h)))
    · exact .inr (.inr (.inr (UInt8.toNat_inj.1 h)))
  rcases e with rfl | rfl | rfl | rfl <;> exact ⟨by decide, by decide⟩

set_option maxHeartbeats 4000000 in
theorem agreed_any (f L c : UInt8) (hL : L.toNat ≤ 3) (w : World) : Calls Try.prog 25 #[T3 f L c] w fun e w' => e = .returned (T3 f (128 + L) c) ∧ Below w.heap.size w w' := by
  have HZ := Hid.mk' zeroT
  obtain ⟨hor, hor2⟩ := or128 L hL
  rw [hor2] at hor
  have HO := Hid.mk' (tc_one f (128 + L) c)
  have hl0 := u8_bd L
  have HS : Hid ((tc f L c).set 1 (.int .u8 ((128 + L).toNat : Int)) = tc f (128 + L) c) := rfl
  unfold T3
  generalize hy : ((128 + L).toNat : Int) = y at *
  have HG : Hid ((tc f L c)[1]? = some (.int .u8 (L.toNat : Int))) := rfl
  clear hor2 hL
  go_enter Try.func25, Try.ntmps25
  go_wp2_with (refine wpList_box (tc f L c) 41 rfl _ rfl rfl ?_)
  intro w1 m1
  go_wp2_with (refine wpList_alloc (tc 0 0 0) 41 HZ.out rfl rfl ?_)
  intro w2 m2
  have hcell := (m2.keep m1.box).cell HG.out
  have hfr := (m2.keep m1.box).frozen
  have S3 := Hid.mk' (Stored.cell (m2.keep m1.box) 1 (.int .u8 y))
  rw [HS.out] at S3
  have z1 := m1.lt
  have HB3 : Hid (Box (w2.setCell ⟨w.heap.size, 1, none⟩ (.int .u8 y)) w1.heap.size 41 (tc 0 0 0)) := S3.out.keep m2.box (by omega)
  have HL3 := Hid.mk' (S3.out.below _ _ (Nat.le_refl _) (m2.below _ _ (by omega) (m1.below _ _ (Nat.le_refl _) (Below.refl _ w))))
  have hne : w.heap.size ≤ w1.heap.size := by omega
  clear z1 m1 m2
  go_wp2_with (first | (refine wpList_load_box 41 41 (tc f (128 + L) c) w.heap.size _ Try.underlying41 rfl (sizeT3 _ _ _) S3.out.box rfl _ rfl rfl ?_) | (refine wpList_store_box 41 41 (tc 0 0 0) (tc f (128 + L) c) w1.heap.size (sizeT3 _ _ _) HO.out HB3.out rfl rfl _ _ rfl rfl rfl ?_))
  intro w4 s4
  go_wp2
  exact ret_box Try.results25 41 (tc f (128 + L) c) w1.heap.size _ Try.underlying41 rfl (sizeT3 _ _ _) rfl s4.box rfl ⟨by rw [← hy]; rfl, s4.below _ _ hne HL3.out⟩

attribute [local go_sem ↓] exec_loadT exec_storeT

set_option maxHeartbeats 4000000 in
theorem held_any (k : List UInt8) (hk : k.length = 38) (f : UInt8) (hf : f.toNat < 19) (w : World) :
    Calls Try.prog 20 #[KV k, .int .u8 (f.toNat : Int)] w fun e w' => e = .returned (T3 f (lv k f.toNat) (ch k f.toNat)) ∧ Below w.heap.size w w' := by
  have HZ := Hid.mk' zeroT
  have c0 := bcells_lv k hk f.toNat hf
  have c1 := bcells_ch k hk f.toNat hf
  have HT := Hid.mk' (tc_one f (lv k f.toNat) (ch k f.toNat))
  have HE : Hid (tc f (lv k f.toNat) (ch k f.toNat) = [.int .u8 (f.toNat : Int), .int .u8 ((lv k f.toNat).toNat : Int), .int .u8 ((ch k f.toNat).toNat : Int)]) := rfl
  unfold KV
  generalize bcells k = l at *
  generalize lv k f.toNat = a at *
  generalize ch k f.toNat = b at *
  have HF : Hid (T3 f a b = .agg #[.int .u8 (f.toNat : Int), .int .u8 (a.toNat : Int), .int .u8 (b.toNat : Int)]) := rfl
  have HH : Hid (Holds (.agg #[.int .u8 (f.toNat : Int), .int .u8 (a.toNat : Int), .int .u8 (b.toNat : Int)]) 3) := T3.holds f a b
  generalize f.toNat = n at *
  have k0 : (0 : Int) ≤ (n : Int) := by omega
  have k1 : (n : Int) < 19 := by omega
  generalize (a.toNat : Int) = x at *
  generalize (b.toNat : Int) = y at *
  go_enter Try.func20, Try.ntmps20
  go_wp2_with (refine wpList_box l 24 rfl _ rfl rfl ?_)
  intro w1 m1
  go_wp2_with (refine wpList_alloc (tc 0 0 0) 41 HZ.out rfl rfl ?_)
  intro w2 m2
  have e0 := (m2.keep m1.box).drew.cell c0
  have e1 := (m2.keep m1.box).drew.cell c1
  have z1 := m1.lt
  have z2 := m2.lt
  have HB : Hid (Below w.heap.size w w2.drew ∧ HasBox w2.drew w1.heap.size 41 3) := ⟨(m2.below _ _ (by omega) (m1.below _ _ (Nat.le_refl _) (Below.refl _ w))).drew, tc 0 0 0, m2.box.drew, rfl⟩
  have hL : Lies w2.drew (.pointer (some ⟨w1.heap.size, 0, none⟩)) 3 := HB.out.2.lies
  have hH := HH.out
  clear m1 m2
  go_wp2_with fail
  go_region
  have S := HB.out.2.put [.int .u8 (n : Int), .int .u8 x, .int .u8 y] rfl
  have HS := Hid.mk' S.box
  have HR := Hid.mk' (S.below _ _ (Nat.le_of_lt z1) HB.out.1)
  clear S HB hL hH e0 e1
  go_wp2
  exact ret_box Try.results20 41 [.int .u8 (n : Int), .int .u8 x, .int .u8 y] w1.heap.size _ Try.underlying41 rfl sizeT rfl HS.out rfl ⟨by rw [HF.out], HR.out⟩
end Go.Proofs.Ytfipmggdpigbkaa.K
