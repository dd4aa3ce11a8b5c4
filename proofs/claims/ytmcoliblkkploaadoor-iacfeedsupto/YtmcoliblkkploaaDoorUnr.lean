/-
  Contract of farref.Unread: the bytes of a right wire's token; conditions: the wire is right, and the variable internal/bytealg.MaxLen holds some int.
-/
import Derived.Test.YtmcoliblkkploaaDoorLaw6
import Derived.Test.YtmcoliblkkploaaDoorTok
import Derived.Test.YtmcoliblkkploaaDoorShelf3
namespace Go.Proofs.YtmcoliblkkploaaDoor
open Go.RowKit

theorem repeat_one (c : UInt8) (n : Nat) : Lib.repeatL [c] n = List.replicate n c := by
  induction n with
  | zero => rfl
  | succ n ih => simp [Lib.repeatL, List.replicate_succ] at ih ⊢; exact ih
theorem byte1 (w : World) (l : List UInt8) (ws : Array Value) (hws : ws = (l.map fun b => Value.int .i64 (b.toNat : Int)).toArray) (hl : l.length ≤ 100) : Calls Tryd.prog 31 #[.slice (some ⟨w.heap.size, 0, none⟩) l.length l.length] (w.alloc (.cells ws 3)) fun e w' => e = .returned (.string ⟨l.toArray⟩) ∧ Below (w.alloc (.cells ws 3)).heap.size (w.alloc (.cells ws 3)) w' := by
  refine Bytes_any l w.heap.size l.length _ hl (fun k hk => ?_) (by simp)
  rw [World.cell?_alloc_at _ _ _ _ rfl, hws]
  simp [hk]

set_option maxHeartbeats 8000000 in
set_option maxRecDepth 100000 in
theorem Unread_plain (md cm : Int) (o c : UInt8) (buf bf : List UInt8) (m : Int) (w : World) (hb : bf.length ≤ 5000) (hmd : md = 0 ∨ md = 1 ∨ (md = 2 ∧ cm = c.toNat) ∨ md = 3 ∨ md = 4 ∨ md = 5) (hbf : bf = buf) (hm : w.cell? ⟨0, 0, none⟩ = some (.int .i64 m)) :
    Calls Tryd.prog 11 #[(⟨md, cm, o.toNat, buf, false⟩ : Wr).val] w fun e w' => e = .returned (.string ⟨(if md = 0 then [] else if md = 1 then [255] else if md = 2 then [255, c] else if md = 3 then [255, 250] else 255 :: 250 :: o :: (esc bf ++ (if md = 4 then [] else [255]))).toArray⟩) ∧ Below w.heap.size w w' := by
  have h0 : 0 < w.heap.size := World.block_lt_of_cell? _ _ hm
  have hel := esc_length bf
  have HR := Hid.mk' (fun W (hW : World.cell? W ⟨0, 0, none⟩ = some (.int .i64 m)) => Replace_ff bf m W (by omega) hW)
  have HB0 := Hid.mk' (fun W => byte1 W [255, 250, o] #[.int .i64 255, .int .i64 250, .int .i64 (o.toNat : Int)] rfl (by simp))
  have HB1 := Hid.mk' (fun W => byte1 W [255] #[.int .i64 255] rfl (by simp))
  have HB2 := Hid.mk' (fun W => byte1 W [255, c] #[.int .i64 255, .int .i64 (c.toNat : Int)] rfl (by simp))
  have HB3 := Hid.mk' (fun W => byte1 W [255, 250] #[.int .i64 255, .int .i64 250] rfl (by simp))
  have HF4 : Hid ((⟨[255, 250, o].toArray⟩ ++ ⟨(esc bf).toArray⟩ : ByteArray) = ⟨(255 :: 250 :: o :: (esc bf ++ [])).toArray⟩) := Hid.mk' (by rw [bytes_glue]; simp)
  have HF5 : Hid ((⟨[255, 250, o].toArray⟩ ++ ⟨(esc bf).toArray⟩ ++ ⟨[255].toArray⟩ : ByteArray) = ⟨(255 :: 250 :: o :: (esc bf ++ [255])).toArray⟩) := Hid.mk' (by rw [bytes_glue, bytes_glue]; simp)
  have hz1 : (⟨[255, 250, o].toArray⟩ : ByteArray).size = 3 := rfl
  have hz2 : (⟨(esc bf).toArray⟩ : ByteArray).size = (esc bf).length := by simp [ByteArray.size]
  have hz3 : (⟨[255].toArray⟩ : ByteArray).size = 1 := rfl
  simp only [List.length_cons, List.length_nil] at HB0 HB1 HB2 HB3
  obtain ⟨X, hX⟩ : ∃ X, X = (if md = 0 then [] else if md = 1 then [255] else if md = 2 then [255, c] else if md = 3 then [255, 250] else 255 :: 250 :: o :: (esc bf ++ (if md = 4 then [] else [255]))) := ⟨_, rfl⟩
  rw [← hX]
  have HX := Hid.mk' hX
  clear hX
  have hlx : (esc bf).length ≤ 10000 := by omega
  generalize hS0 : (⟨[255, 250, o].toArray⟩ : ByteArray) = S0 at *
  generalize hS1 : (⟨(esc bf).toArray⟩ : ByteArray) = S1 at *
  clear hS0 hS1 hel
  simp only [Wr.val]
  generalize (o.toNat : Int) = n at *
  subst hbf
  have hs0 : w.heap.size + 1 ≤ (w.alloc (.cells #[.int .i64 md, .int .i64 cm, .int .i64 n, .string ⟨bf.toArray⟩, .bool false] 23)).heap.size := by simp
  have d0 : ∀ j, (w.alloc (.cells #[.int .i64 md, .int .i64 cm, .int .i64 n, .string ⟨bf.toArray⟩, .bool false] 23)).cell? ⟨w.heap.size, j, none⟩ = (#[.int .i64 md, .int .i64 cm, .int .i64 n, .string ⟨bf.toArray⟩, .bool false] : Array Value)[j]? := fun j => World.cell?_alloc_at _ _ _ _ rfl
  have HBA : Hid (Below w.heap.size w (w.alloc (.cells #[.int .i64 md, .int .i64 cm, .int .i64 n, .string ⟨bf.toArray⟩, .bool false] 23))) := (Below.refl w.heap.size w).alloc (Nat.le_refl _) _
  go_enter Tryd.func11, Tryd.ntmps11
  have hB0 := HB0.out (w.alloc (.cells #[.int .i64 md, .int .i64 cm, .int .i64 n, .string ⟨bf.toArray⟩, .bool false] 23))
  simp only [World.size_alloc] at hB0
  have HB00 := Hid.mk' hB0
  clear hB0
  go_wp2_with fail
  refine HB00.out.mono ?_
  rintro e w1 ⟨rfl, hb1⟩
  have hs1 := hb1.size
  simp only [World.size_alloc] at hs1
  have HBB : Hid (Below w.heap.size w w1) := (HBA.out.alloc (by omega) _).trans (hb1.mono (by first | omega | (simp; omega)))
  have d1 : ∀ j, w1.cell? ⟨w.heap.size, j, none⟩ = (#[.int .i64 md, .int .i64 cm, .int .i64 n, .string ⟨bf.toArray⟩, .bool false] : Array Value)[j]? := fun j => (hb1.cell (p := ⟨w.heap.size, j, none⟩) (by first | (simp; omega) | omega | simp)).trans ((World.cell?_alloc_past _ _ _ (by first | omega | (simp; done))).trans (d0 j))
  have hM1 : Hid (w1.cell? ⟨0, 0, none⟩ = some (.int .i64 m)) := (HBB.out.cell (p := ⟨0, 0, none⟩) h0).trans hm
  clear hb1 d0
  go_wp2_with fail
  refine (HR.out _ hM1.out).mono ?_
  rintro e w2 ⟨rfl, hb2⟩
  have hs2 := hb2.size
  have HB4 : Hid (Below w.heap.size w w2) := HBB.out.trans (hb2.mono (by omega))
  have d2 : ∀ j, w2.cell? ⟨w.heap.size, j, none⟩ = (#[.int .i64 md, .int .i64 cm, .int .i64 n, .string ⟨bf.toArray⟩, .bool false] : Array Value)[j]? := fun j => (hb2.cell (p := ⟨w.heap.size, j, none⟩) (by simp; omega)).trans (d1 j)
  clear hb2 d1 hM1
  rcases hmd with rfl | rfl | ⟨rfl, rfl⟩ | rfl | rfl | rfl
  · go_wp2
    go_ret
    exact ⟨by rw [HX.out]; rfl, HB4.out⟩
  · go_wp2_with fail
    refine (HB1.out w2).mono ?_
    rintro e w3 ⟨rfl, hb3⟩
    have HB5 : Hid (Below w.heap.size w w3) := (HB4.out.alloc (by omega) _).trans (hb3.mono (by simp; omega))
    clear hb3
    go_wp2
    go_ret
    exact ⟨by rw [HX.out]; rfl, HB5.out⟩
  · go_wp2_with fail
    refine (HB2.out w2).mono ?_
    rintro e w3 ⟨rfl, hb3⟩
    have HB5 : Hid (Below w.heap.size w w3) := (HB4.out.alloc (by omega) _).trans (hb3.mono (by simp; omega))
    clear hb3
    go_wp2
    go_ret
    exact ⟨by rw [HX.out]; rfl, HB5.out⟩
  · go_wp2_with fail
    refine (HB3.out w2).mono ?_
    rintro e w3 ⟨rfl, hb3⟩
    have HB5 : Hid (Below w.heap.size w w3) := (HB4.out.alloc (by omega) _).trans (hb3.mono (by simp; omega))
    clear hb3
    go_wp2
    go_ret
    exact ⟨by rw [HX.out]; rfl, HB5.out⟩
  · go_wp2
    go_ret
    exact ⟨by rw [HX.out, HF4.out]; rfl, HB4.out⟩
  · go_wp2_with fail
    refine (HB1.out w2).mono ?_
    rintro e w3 ⟨rfl, hb3⟩
    have HB5 : Hid (Below w.heap.size w w3) := (HB4.out.alloc (by omega) _).trans (hb3.mono (by simp; omega))
    clear hb3
    go_wp2
    go_ret
    exact ⟨by rw [HX.out]; rw [HF5.out]; rfl, HB5.out⟩

set_option maxHeartbeats 8000000 in
set_option maxRecDepth 100000 in
theorem Unread_over (md cm : Int) (o c : UInt8) (buf bf : List UInt8) (m : Int) (w : World) (hb : bf.length ≤ 5000) (hmd : md = 0 ∨ md = 1 ∨ (md = 2 ∧ cm = c.toNat) ∨ md = 3 ∨ md = 4 ∨ md = 5) (hbf : bf = List.replicate 4097 120) (hm : w.cell? ⟨0, 0, none⟩ = some (.int .i64 m)) :
    Calls Tryd.prog 11 #[(⟨md, cm, o.toNat, buf, true⟩ : Wr).val] w fun e w' => e = .returned (.string ⟨(if md = 0 then [] else if md = 1 then [255] else if md = 2 then [255, c] else if md = 3 then [255, 250] else 255 :: 250 :: o :: (esc bf ++ (if md = 4 then [] else [255]))).toArray⟩) ∧ Below w.heap.size w w' := by
  have h0 : 0 < w.heap.size := World.block_lt_of_cell? _ _ hm
  have hel := esc_length bf
  have HR := Hid.mk' (fun W (hW : World.cell? W ⟨0, 0, none⟩ = some (.int .i64 m)) => Replace_ff bf m W (by omega) hW)
  have HB0 := Hid.mk' (fun W => byte1 W [255, 250, o] #[.int .i64 255, .int .i64 250, .int .i64 (o.toNat : Int)] rfl (by simp))
  have HB1 := Hid.mk' (fun W => byte1 W [255] #[.int .i64 255] rfl (by simp))
  have HB2 := Hid.mk' (fun W => byte1 W [255, c] #[.int .i64 255, .int .i64 (c.toNat : Int)] rfl (by simp))
  have HB3 := Hid.mk' (fun W => byte1 W [255, 250] #[.int .i64 255, .int .i64 250] rfl (by simp))
  have HF4 : Hid ((⟨[255, 250, o].toArray⟩ ++ ⟨(esc bf).toArray⟩ : ByteArray) = ⟨(255 :: 250 :: o :: (esc bf ++ [])).toArray⟩) := Hid.mk' (by rw [bytes_glue]; simp)
  have HF5 : Hid ((⟨[255, 250, o].toArray⟩ ++ ⟨(esc bf).toArray⟩ ++ ⟨[255].toArray⟩ : ByteArray) = ⟨(255 :: 250 :: o :: (esc bf ++ [255])).toArray⟩) := Hid.mk' (by rw [bytes_glue, bytes_glue]; simp)
  have hz1 : (⟨[255, 250, o].toArray⟩ : ByteArray).size = 3 := rfl
  have hz2 : (⟨(esc bf).toArray⟩ : ByteArray).size = (esc bf).length := by simp [ByteArray.size]
  have hz3 : (⟨[255].toArray⟩ : ByteArray).size = 1 := rfl
  simp only [List.length_cons, List.length_nil] at HB0 HB1 HB2 HB3
  obtain ⟨X, hX⟩ : ∃ X, X = (if md = 0 then [] else if md = 1 then [255] else if md = 2 then [255, c] else if md = 3 then [255, 250] else 255 :: 250 :: o :: (esc bf ++ (if md = 4 then [] else [255]))) := ⟨_, rfl⟩
  rw [← hX]
  have HX := Hid.mk' hX
  clear hX
  have hlx : (esc bf).length ≤ 10000 := by omega
  generalize hS0 : (⟨[255, 250, o].toArray⟩ : ByteArray) = S0 at *
  generalize hS1 : (⟨(esc bf).toArray⟩ : ByteArray) = S1 at *
  clear hS0 hS1 hel
  simp only [Wr.val]
  generalize (o.toNat : Int) = n at *
  have HRP := Hid.mk' (fun W => Tryd.strings_Repeat ⟨#[120]⟩ 4097 W (by decide) (by decide))
  have e1 : (⟨(Lib.repeatL (⟨#[120]⟩ : ByteArray).data.toList 4097).toArray⟩ : ByteArray) = ⟨bf.toArray⟩ := by
    rw [hbf, ← repeat_one]
  rw [e1] at HRP
  clear e1 hbf
  go_enter Tryd.func11, Tryd.ntmps11
  go_wp2_with fail
  refine (HRP.out _).mono ?_
  rintro e w0 ⟨rfl, hb0⟩
  have hs0 := hb0.size
  simp only [World.size_alloc] at hs0
  have d0 := later4 hb0
  have HBA : Hid (Below w.heap.size w w0) := ((Below.refl w.heap.size w).alloc (Nat.le_refl _) _).trans (hb0.mono (by simp))
  clear hb0
  go_wp2_with fail
  refine (HB0.out w0).mono ?_
  rintro e w1 ⟨rfl, hb1⟩
  have hs1 := hb1.size
  simp only [World.size_alloc] at hs1
  have HBB : Hid (Below w.heap.size w w1) := (HBA.out.alloc (by omega) _).trans (hb1.mono (by first | omega | (simp; omega)))
  have d1 : ∀ j, w1.cell? ⟨w.heap.size, j, none⟩ = (#[.int .i64 md, .int .i64 cm, .int .i64 n, .string ⟨buf.toArray⟩, .bool true] : Array Value)[j]? := fun j => (hb1.cell (p := ⟨w.heap.size, j, none⟩) (by first | (simp; omega) | omega | simp)).trans ((World.cell?_alloc_past _ _ _ (by first | omega | (simp; done))).trans (d0 j))
  have hM1 : Hid (w1.cell? ⟨0, 0, none⟩ = some (.int .i64 m)) := (HBB.out.cell (p := ⟨0, 0, none⟩) h0).trans hm
  clear hb1 d0
  go_wp2_with fail
  refine (HR.out _ hM1.out).mono ?_
  rintro e w2 ⟨rfl, hb2⟩
  have hs2 := hb2.size
  have HB4 : Hid (Below w.heap.size w w2) := HBB.out.trans (hb2.mono (by omega))
  have d2 : ∀ j, w2.cell? ⟨w.heap.size, j, none⟩ = (#[.int .i64 md, .int .i64 cm, .int .i64 n, .string ⟨buf.toArray⟩, .bool true] : Array Value)[j]? := fun j => (hb2.cell (p := ⟨w.heap.size, j, none⟩) (by simp; omega)).trans (d1 j)
  clear hb2 d1 hM1
  rcases hmd with rfl | rfl | ⟨rfl, rfl⟩ | rfl | rfl | rfl
  · go_wp2
    go_ret
    exact ⟨by rw [HX.out]; rfl, HB4.out⟩
  · go_wp2_with fail
    refine (HB1.out w2).mono ?_
    rintro e w3 ⟨rfl, hb3⟩
    have HB5 : Hid (Below w.heap.size w w3) := (HB4.out.alloc (by omega) _).trans (hb3.mono (by simp; omega))
    clear hb3
    go_wp2
    go_ret
    exact ⟨by rw [HX.out]; rfl, HB5.out⟩
  · go_wp2_with fail
    refine (HB2.out w2).mono ?_
    rintro e w3 ⟨rfl, hb3⟩
    have HB5 : Hid (Below w.heap.size w w3) := (HB4.out.alloc (by omega) _).trans (hb3.mono (by simp; omega))
    clear hb3
    go_wp2
    go_ret
    exact ⟨by rw [HX.out]; rfl, HB5.out⟩
  · go_wp2_with fail
    refine (HB3.out w2).mono ?_
    rintro e w3 ⟨rfl, hb3⟩
    have HB5 : Hid (Below w.heap.size w w3) := (HB4.out.alloc (by omega) _).trans (hb3.mono (by simp; omega))
    clear hb3
    go_wp2
    go_ret
    exact ⟨by rw [HX.out]; rfl, HB5.out⟩
  · go_wp2
    go_ret
    exact ⟨by rw [HX.out, HF4.out]; rfl, HB4.out⟩
  · go_wp2_with fail
    refine (HB1.out w2).mono ?_
    rintro e w3 ⟨rfl, hb3⟩
    have HB5 : Hid (Below w.heap.size w w3) := (HB4.out.alloc (by omega) _).trans (hb3.mono (by simp; omega))
    clear hb3
    go_wp2
    go_ret
    exact ⟨by rw [HX.out]; rw [HF5.out]; rfl, HB5.out⟩

theorem Unread_any (x : Wr) (m : Int) (w : World) (hx : x.ok = true) (hm : w.cell? ⟨0, 0, none⟩ = some (.int .i64 m)) :
    Calls Tryd.prog 11 #[x.val] w fun e w' => e = .returned (.string ⟨(unread x).toArray⟩) ∧ Below w.heap.size w w' := by
  have h := (Wr.ok_iff x).1 hx
  obtain ⟨md, cm, op, buf, ov⟩ := x
  simp only at h
  have ho : 0 ≤ op ∧ op ≤ 255 := by omega
  obtain ⟨o, rfl, hob⟩ := byte_of op ho.1 ho.2
  have hc : ∃ c : UInt8, md = 2 → cm = c.toNat ∧ UInt8.ofNat cm.toNat = c := by
    by_cases h2 : md = 2
    · obtain ⟨c, rfl, hcb⟩ := byte_of cm (by omega) (by omega)
      exact ⟨c, fun _ => ⟨rfl, hcb⟩⟩
    · exact ⟨0, fun e => absurd e h2⟩
  obtain ⟨c, hc⟩ := hc
  have hmd : md = 0 ∨ md = 1 ∨ (md = 2 ∧ cm = c.toNat) ∨ md = 3 ∨ md = 4 ∨ md = 5 := by
    rcases h with ⟨h, _⟩ | ⟨h, _⟩ | ⟨h, _⟩
    · omega
    · exact .inr (.inr (.inl ⟨h, (hc h).1⟩))
    · omega
  have e : unread ⟨md, cm, o.toNat, buf, ov⟩ = (if md = 0 then [] else if md = 1 then [255] else if md = 2 then [255, c] else if md = 3 then [255, 250] else 255 :: 250 :: o :: (esc (if ov = true then List.replicate 4097 120 else buf) ++ (if md = 4 then [] else [255]))) := by
    unfold unread
    simp only [hob]
    by_cases h2 : md = 2
    · rw [(hc h2).2]
    · rw [if_neg h2, if_neg h2]
  rw [e]
  have hbl : buf.length ≤ 4096 := by
    rcases h with ⟨_, _, _, rfl, _⟩ | ⟨_, _, _, rfl, _⟩ | ⟨_, _, _, _, h⟩
    · simp
    · simp
    · exact h
  cases ov with
  | false => exact Unread_plain md cm o c buf buf m w (by omega) hmd rfl hm
  | true => exact Unread_over md cm o c buf _ m w (by rw [if_pos rfl, List.length_replicate]; decide) hmd rfl hm
end Go.Proofs.YtmcoliblkkploaaDoor
