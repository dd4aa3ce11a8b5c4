/-
  Contracts of farkeep.runesIn at a text of signs below 128, and of farkeep.parseLives; condition: at most 1048576 bytes.
-/
import Derived.Test.YtneiiinheimglaaDoorBSame
import Derived.Lib.OthersKept
namespace Go.Proofs.YtneiiinheimglaaDoor.B
open Go.RowKit Go.Lib Go.Proofs.YtneiiinheimglaaDoor Go.Proofs.YtneiiinheimglaaDoor.W Go.Proofs.YtneiiinheimglaaDoor.Q Go.Proofs.YtneiiinheimglaaDoor.C Go.Proofs.YtneiiinheimglaaDoor.Z

theorem below_iter (w : World) (s : ByteArray) (p : Nat) : Below w.heap.size w (w.iter s p) := (Below.refl _ _).alloc (Nat.le_refl _) _
def RI (w : World) (T : List UInt8) (g : Nat) (s3 : Value) (wx : World) : Prop :=
  ∃ i : Nat, i ≤ T.length ∧ T.length - i ≤ g ∧ Hid (wx.heap[w.heap.size]? = some (.stringIter (bs T) i)) ∧ Hid (Below w.heap.size w wx) ∧ Hid (w.heap.size + 1 ≤ wx.heap.size) ∧ Hid (OwnI wx (w.heap.size + 1) s3 (asInts (T.take i)))

theorem asInts_take (T : List UInt8) (i : Nat) (h : i < T.length) : asInts (T.take (i + 1)) = asInts (T.take i) ++ [(T[i].toNat : Int)] := by
  unfold asInts
  rw [List.take_succ_eq_append_getElem h, List.map_append]
  rfl

set_option maxHeartbeats 8000000 in
set_option maxRecDepth 100000 in
theorem runesIn_ascii (T : List UInt8) (w : World) (ha : ∀ b ∈ T, b.toNat < 128) (hl : T.length ≤ 1048576) :
    Calls Tryd.prog 21 #[.string (bs T)] w fun e w' => ∃ v, e = .returned v ∧ OwnI w' w.heap.size v (asInts T) ∧ Below w.heap.size w w' := by
  have hz := C.bs_size T
  have HG : Hid (∀ n (h : n < T.length) (h2 : n < (bs T).size), (bs T)[n]'h2 = T[n]'h) := fun n h h2 => get_mk T n h h2
  have HI0 : Hid (RI w T T.length (.slice none 0 0) (w.iter (bs T) 0)) := ⟨0, Nat.zero_le _, by omega, World.iter_heap _ _ _, below_iter _ _ _, by rw [Hid]; unfold World.iter; simp, OwnI.nil _ _⟩
  have HNX := Hid.mk' (fun W k pos ty => run_next_any_at (P := Tryd.prog) W k (bs T) pos ty)
  have HNE := Hid.mk' (fun W k pos ty => run_next_end_at (P := Tryd.prog) W k (bs T) pos ty)
  have HDA := Hid.mk' (fun i => decode_ascii (bs T) i)
  have HAL : Hid (∀ n (h : n < T.length), (T[n]'h).toNat < 128) := fun n h => ha _ (List.getElem_mem h)
  clear ha
  go_enter Tryd.func21, Tryd.ntmps21
  go_wp2_with fail
  go_loopg [3] T.length (fun g s3 wx => RI w T g s3 wx)
  case atStart => exact HI0.out
  case round =>
    obtain ⟨i, hi, hg, HIT, HB, HSZ, HO⟩ := hrel
    have HGK := Hid.mk' hg
    clear hg HI0
    by_cases hlt : i < T.length
    · have hlt2 : i < (bs T).size := by omega
      have hgt := HG.out i hlt hlt2
      have hnx := fun ty => HNX.out wr w.heap.size i ty HIT.out hlt2
      have ha := HAL.out i hlt
      have hde := HDA.out i hlt2 (hgt.symm ▸ ha)
      rw [hgt] at hde
      rw [hde] at hnx
      have HB2 : Hid (Below w.heap.size w (wr.iterAt w.heap.size (bs T) (i + 1))) := below_iterAt HB.out (Nat.le_refl _) _ _
      have HIT2 : Hid ((wr.iterAt w.heap.size (bs T) (i + 1)).heap[w.heap.size]? = some (.stringIter (bs T) (i + 1))) := iterAt_heap _ _ _ _ _ HIT.out
      have hsz2 : (wr.iterAt w.heap.size (bs T) (i + 1)).heap.size = wr.heap.size := iterAt_size _ _ _ _
      have HSZ2 : Hid (w.heap.size + 1 ≤ (wr.iterAt w.heap.size (bs T) (i + 1)).heap.size) := by rw [Hid, hsz2]; exact HSZ.out
      have HO2 : Hid (OwnI (wr.iterAt w.heap.size (bs T) (i + 1)) (w.heap.size + 1) u3 (asInts (T.take i))) := HO.out.keptAt fun k hk => by
        have := (HO.out.lt k hk).1
        exact iterAt_other _ _ _ _ _ (by omega)
      have HTK := Hid.mk' (asInts_take T i hlt)
      have hlen : (asInts (T.take i)).length + 1 ≤ 17592186044416 := by
        have := List.length_take_le' i T
        simp only [asInts, List.length_map]
        omega
      dsimp only at hnx
      clear HNX HNE HDA HAL hgt hde HG HIT HB HO HSZ hsz2
      generalize T[i] = x at *
      generalize wr.iterAt w.heap.size (bs T) (i + 1) = w2 at *
      generalize hL : asInts (T.take i) = l at *
      obtain ⟨al, cl, es⟩ : ∃ a c, u3 = Value.slice a l.length c := by
        obtain ⟨a, c, h, _⟩ := RdI.own HO2.out
        exact ⟨a, c, h⟩
      subst es
      have HW : Hid (#[.int .i64 (x.toNat : Int)] = (icells [(x.toNat : Int)]).toArray) := Hid.mk' rfl
      have hb2 := HSZ2.out
      have hx0 : 0 ≤ (x.toNat : Int) := by omega
      have hx1 : (x.toNat : Int) < 128 := by omega
      have HN : Hid (∀ w3 v, OwnI w3 (w.heap.size + 1) v (l ++ [(x.toNat : Int)]) → (∀ B W, B ≤ w.heap.size + 1 → Below B W w2 → Below B W w3) → RI w T (T.length - (i + 1)) v w3) := fun w3 v ho hB => by
        have hb := hB (w.heap.size + 1) w2 (Nat.le_refl _) (Below.refl _ _)
        refine ⟨i + 1, by omega, Nat.le_refl _, (hb.block _ (Nat.lt_succ_self _)).trans HIT2.out, hB _ _ (Nat.le_succ _) HB2.out, by rw [Hid]; have := HSZ2.out; have h2 := hb.size; omega, ?_⟩
        rw [HTK.out]
        exact ho
      clear HTK HIT2 HB2 HSZ2 ha hL
      generalize (x.toNat : Int) = z at *
      go_wp2_with (at_builtin; refine wpList_append_i _ (by rfl) _ _ rfl (w.heap.size + 1) (.slice al l.length cl) l [z] rfl HO2.out _ HW.out _ _ rfl rfl (by simp) hb2 ?c1 ?_)
      case c1 => simpa using hlen
      intro v3 w3 ho3 hB3
      have HN2 := Hid.mk' (HN.out w3 v3 ho3 hB3)
      clear ho3 hB3 HN HW HO2 hb2
      go_wp2
      go_roundg (T.length - (i + 1))
      case measure => have := HGK.out; omega
      case rel => exact HN2.out
    · obtain rfl : i = T.length := by omega
      have hnx := fun ty => HNE.out wr w.heap.size T.length ty HIT.out (by omega)
      have HE : Hid (OwnI wr w.heap.size u3 (asInts T)) := by
        have h := HO.out
        rw [List.take_length] at h
        exact h.weak (Nat.le_succ _)
      clear HNX HNE HDA HAL HG HO HSZ HIT
      go_wp2
      go_ret
      exact ⟨_, rfl, HE.out, HB.out⟩

/-- acts just laid -/
theorem RdA.lit (w : World) (xs : List (Ac × Value)) (hr : ∀ x ∈ xs, RdI w x.2 x.1.args) : RdA (w.alloc (.cells (asC xs).toArray 35)) (.slice (some ⟨w.heap.size, 0, none⟩) (xs.map Prod.fst).length (xs.map Prod.fst).length) (xs.map Prod.fst) := by
  refine ⟨_, _, xs, rfl, Nat.le_refl _, rfl, fun x hx => (hr x hx).below ((Below.refl _ _).alloc (Nat.le_refl _) _), .inr ⟨w.heap.size, 0, rfl, by simp, fun j u hu => ?_⟩⟩
  rw [Nat.zero_add]
  exact (Box.new w 35 (asC xs)).cell hu
theorem RdI.lit (w : World) (l : List Int) : RdI (w.alloc (.cells (icells l).toArray 3)) (.slice (some ⟨w.heap.size, 0, none⟩) l.length l.length) l := by
  refine ⟨_, _, rfl, Nat.le_refl _, .inr ⟨w.heap.size, 0, rfl, fun j hj => ?_, by simp⟩⟩
  rw [Nat.zero_add]
  exact (Box.new w 3 (icells l)).cell (by simp [icells, hj])
theorem RdI.nil (w : World) : RdI w (.slice none 0 0) [] := ⟨none, 0, rfl, Nat.le_refl _, .inl rfl⟩

def lv : List UInt8 := [97, 27, 91, 63, 50, 53, 104, 27, 93, 48, 59, 116, 7, 27, 40]
theorem lives_run : run p0 (asInts lv) = (⟨2, 0, [40], [], []⟩, [⟨1, 97, 0, [], [], []⟩, ⟨4, 104, 63, [], [25], []⟩, ⟨5, 0, 0, [], [], [48, 59, 116]⟩]) := by kernel_rfl

set_option maxHeartbeats 8000000 in
set_option maxRecDepth 100000 in
theorem lives_any (w : World) : Calls Tryd.prog 11 #[] w fun e w' => e = .returned (.bool true) ∧ Below w.heap.size w w' := by
  have HR := Hid.mk' (show Calls Tryd.prog 21 #[.string ⟨#[97, 27, 91, 63, 50, 53, 104, 27, 93, 48, 59, 116, 7, 27, 40]⟩] w fun e w' => ∃ v, e = .returned v ∧ OwnI w' w.heap.size v (asInts lv) ∧ Below w.heap.size w w' from runesIn_ascii lv w (by decide) (by decide))
  have HF : Hid (∀ v W, RdI W v (asInts lv) → Calls Tryd.prog 5 #[.agg #[.int .i64 0, .int .i64 0, .string ⟨#[]⟩, .string ⟨#[]⟩, .string ⟨#[]⟩], v] W fun e w' => ∃ vl, e = .returned (.tuple #[.agg #[.int .i64 2, .int .i64 0, .string ⟨#[40]⟩, .string ⟨#[]⟩, .string ⟨#[]⟩], vl, .int .i64 0]) ∧ RdA w' vl (run p0 (asInts lv)).2 ∧ Below W.heap.size W w') := fun v W hv => by
    have h := Feed_ok p0 right_p0 v (asInts lv) W hv (by decide)
    rw [lives_run] at h ⊢
    exact h.mono fun e w' ⟨vl, h1, h2, h3⟩ => ⟨vl, h1, h2.rd, h3⟩
  have HS : Hid (∀ W vl, RdA W vl (run p0 (asInts lv)).2 → Calls Tryd.prog 9 #[vl, .slice (some ⟨W.heap.size + 1, 0, none⟩) 3 3] ((W.alloc (.cells #[.int .i64 25] 3)).alloc (.cells #[.int .i64 1, .int .i64 97, .int .i64 0, .string ⟨#[]⟩, .slice none 0 0, .string ⟨#[]⟩, .int .i64 4, .int .i64 104, .int .i64 63, .string ⟨#[]⟩, .slice (some ⟨W.heap.size, 0, none⟩) 1 1, .string ⟨#[]⟩, .int .i64 5, .int .i64 0, .int .i64 0, .string ⟨#[]⟩, .slice none 0 0, .string ⟨#[48, 59, 116]⟩] 35)) fun e w' => e = .returned (.bool true) ∧ Below W.heap.size W w') := fun W vl h => by
    rw [lives_run] at h
    have h1 : Below W.heap.size W (W.alloc (.cells #[.int .i64 25] 3)) := (Below.refl _ _).alloc (Nat.le_refl _) _
    have hr := RdI.lit W [25]
    have h3 := RdA.lit (W.alloc (.cells #[.int .i64 25] 3)) [(⟨1, 97, 0, [], [], []⟩, .slice none 0 0), (⟨4, 104, 63, [], [25], []⟩, .slice (some ⟨W.heap.size, 0, none⟩) 1 1), (⟨5, 0, 0, [], [], [48, 59, 116]⟩, .slice none 0 0)] (by
      intro x hx
      simp only [List.mem_cons, List.mem_nil_iff, or_false] at hx
      rcases hx with rfl | rfl | rfl
      · exact RdI.nil _
      · exact hr
      · exact RdI.nil _)
    rw [World.size_alloc] at h3
    have h2 := (h.below h1).below ((Below.refl _ _).alloc (Nat.le_refl _) (.cells (asC [(⟨1, 97, 0, [], [], []⟩, .slice none 0 0), (⟨4, 104, 63, [], [25], []⟩, .slice (some ⟨W.heap.size, 0, none⟩) 1 1), (⟨5, 0, 0, [], [], [48, 59, 116]⟩, .slice none 0 0)]).toArray 35))
    have hk := SameActs_same _ vl _ _ h2 h3 (by
      intro y hy
      simp only [List.mem_cons, List.mem_nil_iff, or_false] at hy
      rcases hy with rfl | rfl | rfl <;> decide) (by decide)
    refine hk.mono fun e w' ⟨he, hb⟩ => ⟨he, ((h1.alloc (by simp) _)).trans (Below.mono hb (by simp; omega))⟩
  go_enter Tryd.func11, Tryd.ntmps11
  go_wp2_with fail
  refine HR.out.mono ?_
  rintro e w1 ⟨v, rfl, ho, hb1⟩
  have HF1 := Hid.mk' (HF.out v w1 (RdI.own ho))
  have HB1 := Hid.mk' hb1
  clear HR HF ho hb1
  go_wp2_with fail
  refine HF1.out.mono ?_
  rintro e w2 ⟨vl, rfl, hra, hb2⟩
  have HB2 := Hid.mk' (HB1.out.trans (Below.mono hb2 HB1.out.size))
  have HSX := Hid.mk' (HS.out (w2.alloc (.cells #[.int .i64 2, .int .i64 0, .string ⟨#[40]⟩, .string ⟨#[]⟩, .string ⟨#[]⟩] 23)) vl (hra.below ((Below.refl _ _).alloc (Nat.le_refl _) _)))
  have HBF : Hid (∀ W, Below (w2.alloc (.cells #[.int .i64 2, .int .i64 0, .string ⟨#[40]⟩, .string ⟨#[]⟩, .string ⟨#[]⟩] 23)).heap.size (w2.alloc (.cells #[.int .i64 2, .int .i64 0, .string ⟨#[40]⟩, .string ⟨#[]⟩, .string ⟨#[]⟩] 23)) W → Below w.heap.size w W) := fun W hW => (HB2.out.alloc HB2.out.size _).trans (Below.mono hW (by have := HB2.out.size; simp; omega))
  rw [World.size_alloc] at HSX
  clear HF1 HS hra hb2 HB1 HB2
  go_wp2_with fail
  refine HSX.out.mono ?_
  rintro e w3 ⟨rfl, hb⟩
  have HB := Hid.mk' (HBF.out w3 (by rw [World.size_alloc]; exact hb))
  clear HSX HBF hb
  go_wp2
  go_ret
  exact ⟨rfl, HB.out⟩
end Go.Proofs.YtneiiinheimglaaDoor.B
