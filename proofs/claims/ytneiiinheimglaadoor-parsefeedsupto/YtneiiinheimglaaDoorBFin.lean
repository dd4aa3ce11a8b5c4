/-
  Contract of farref.finalAct; conditions: texts of at most 1048576 bytes; the variable internal/bytealg.MaxLen holds an int.
-/
import Derived.Test.YtneiiinheimglaaDoorBText2
namespace Go.Proofs.YtneiiinheimglaaDoor.B
open Go.RowKit Go.Lib Go.Proofs.YtneiiinheimglaaDoor Go.Proofs.YtneiiinheimglaaDoor.W Go.Proofs.YtneiiinheimglaaDoor.Q Go.Proofs.YtneiiinheimglaaDoor.C Go.Proofs.YtneiiinheimglaaDoor.Z

theorem exec_storeA (ρ : Operand → Value) (x y : Operand) (dst : Option Tmp) (t : TypeId) (pos : String) (af : Array Edge) (g : Option (Nat × Bool)) (w : World) (h : Lies w (ρ x) 6) (hy : Holds (ρ y) 6) :
    (execOp ρ { dst := dst, op := .store 35 x y, type := t, pos := pos, after := af, guard := g }).run Tryd.prog w = .ok .skip (Q.putAt w (ρ x) (ρ y)) :=
  exec_store 35 6 sizeAct ρ x y dst t pos af g w h hy
attribute [local go_sem ↓] exec_storeA
theorem fin_made (w : World) (l : List Value) (y : Ac) (v : Value) : Box ((w.alloc (.cells l.toArray 23)).alloc (.cells (acells y v).toArray 35)) (w.heap.size + 1) 35 (acells y v) ∧ Below w.heap.size w ((w.alloc (.cells l.toArray 23)).alloc (.cells (acells y v).toArray 35)) := by
  have h := Box.new (w.alloc (.cells l.toArray 23)) 35 (acells y v)
  rw [World.size_alloc] at h
  exact ⟨h, ((Below.refl _ _).alloc (Nat.le_refl _) _).alloc (by simp) _⟩
set_option maxHeartbeats 16000000 in
set_option maxRecDepth 100000 in
theorem finalAct_any (p : Ps) (c m : Int) (w : World) (hp : p.inter.length ≤ 1048576 ∧ p.args.length ≤ 1048576) (hm : w.cell? ⟨2, 0, none⟩ = some (.int .i64 m)) :
    Calls Tryd.prog 34 #[.agg #[.int .i64 (p.st : Int), .int .i64 p.mark, .string (bs p.inter), .string (bs p.args), .string (bs p.text)], .int .i64 c] w fun e w' => ∃ v, e = .returned (.agg (acells (final p c) v).toArray) ∧ RdT w' v (final p c).args ∧ Below w.heap.size w w' := by
  obtain ⟨hp1, hp2⟩ := hp
  have z1 := C.bs_size p.inter
  have hml := World.block_lt_of_cell? _ _ hm
  unfold final
  by_cases h3 : p.inter.length = 3
  · rw [if_pos h3]
    have q1 : ((bs p.inter).size : Int) = 3 := by omega
    have HF := Hid.mk' (fin_made w [.int .i64 (p.st : Int), .int .i64 p.mark, .string (bs p.inter), .string (bs p.args), .string (bs p.text)] gone (.slice none 0 0))
    unfold acells at HF
    clear hm hml
    generalize bs p.inter = S1 at *
    generalize bs p.args = S2 at *
    generalize bs p.text = S3 at *
    go_enter Tryd.func34, Tryd.ntmps34
    go_wp2
    exact ret_box Tryd.results34 35 (acells gone (.slice none 0 0)) (w.heap.size + 1) _ Tryd.underlying35 rfl sizeAct rfl HF.out.1 rfl ⟨.slice none 0 0, rfl, RdT.nil _, HF.out.2⟩
  · rw [if_neg h3]
    have q1 : (((bs p.inter).size : Int) == 3) = false := beq_false_of_ne (by omega)
    by_cases hs : p.st < 3
    · rw [if_pos hs]
      have q2 : (p.st : Int) < 3 := by omega
      have HF := Hid.mk' (fin_made w [.int .i64 (p.st : Int), .int .i64 p.mark, .string (bs p.inter), .string (bs p.args), .string (bs p.text)] ⟨3, c, 0, p.inter, [], []⟩ (.slice none 0 0))
      unfold acells at HF
      dsimp only at HF
      rw [show bs ([] : List UInt8) = ⟨#[]⟩ from rfl] at HF
      clear hm hml
      generalize bs p.args = S2 at *
      generalize bs p.text = S3 at *
      go_enter Tryd.func34, Tryd.ntmps34
      go_wp2
      exact ret_box Tryd.results34 35 (acells ⟨3, c, 0, p.inter, [], []⟩ (.slice none 0 0)) (w.heap.size + 1) _ Tryd.underlying35 rfl sizeAct rfl HF.out.1 rfl ⟨.slice none 0 0, rfl, RdT.nil _, HF.out.2⟩
    · rw [if_neg hs]
      have q2 : ¬ (p.st : Int) < 3 := by omega
      have b0 := (Box.new w 23 [.int .i64 (p.st : Int), .int .i64 p.mark, .string (bs p.inter), .string (bs p.args), .string (bs p.text)]).alloc (.cells #[.int .i64 0, .int .i64 0, .int .i64 0, .string ⟨#[]⟩, .slice none 0 0, .string ⟨#[]⟩] 35)
      have b1 := Box.new (w.alloc (.cells #[.int .i64 (p.st : Int), .int .i64 p.mark, .string (bs p.inter), .string (bs p.args), .string (bs p.text)] 23)) 35 [.int .i64 0, .int .i64 0, .int .i64 0, .string ⟨#[]⟩, .slice none 0 0, .string ⟨#[]⟩]
      rw [World.size_alloc] at b1
      have hW0 : Below w.heap.size w ((w.alloc (.cells #[.int .i64 (p.st : Int), .int .i64 p.mark, .string (bs p.inter), .string (bs p.args), .string (bs p.text)] 23)).alloc (.cells #[.int .i64 0, .int .i64 0, .int .i64 0, .string ⟨#[]⟩, .slice none 0 0, .string ⟨#[]⟩] 35)) := ((Below.refl _ _).alloc (Nat.le_refl _) _).alloc (by simp) _
      have HOF := Hid.mk' (ArgsOf_any p.args m ((w.alloc (.cells #[.int .i64 (p.st : Int), .int .i64 p.mark, .string (bs p.inter), .string (bs p.args), .string (bs p.text)] 23)).alloc (.cells #[.int .i64 0, .int .i64 0, .int .i64 0, .string ⟨#[]⟩, .slice none 0 0, .string ⟨#[]⟩] 35)) ((hW0.cell (p := ⟨2, 0, none⟩) hml).trans hm) hp2)
      have hsz2 : ((w.alloc (.cells #[.int .i64 (p.st : Int), .int .i64 p.mark, .string (bs p.inter), .string (bs p.args), .string (bs p.text)] 23)).alloc (.cells #[.int .i64 0, .int .i64 0, .int .i64 0, .string ⟨#[]⟩, .slice none 0 0, .string ⟨#[]⟩] 35)).heap.size = w.heap.size + 1 + 1 := by simp
      have HK := Hid.mk' (fun W (h : Below ((w.alloc (.cells #[.int .i64 (p.st : Int), .int .i64 p.mark, .string (bs p.inter), .string (bs p.args), .string (bs p.text)] 23)).alloc (.cells #[.int .i64 0, .int .i64 0, .int .i64 0, .string ⟨#[]⟩, .slice none 0 0, .string ⟨#[]⟩] 35)).heap.size ((w.alloc (.cells #[.int .i64 (p.st : Int), .int .i64 p.mark, .string (bs p.inter), .string (bs p.args), .string (bs p.text)] 23)).alloc (.cells #[.int .i64 0, .int .i64 0, .int .i64 0, .string ⟨#[]⟩, .slice none 0 0, .string ⟨#[]⟩] 35)) W) => show Box W w.heap.size 23 [.int .i64 (p.st : Int), .int .i64 p.mark, .string (bs p.inter), .string (bs p.args), .string (bs p.text)] ∧ Box W (w.heap.size + 1) 35 [.int .i64 0, .int .i64 0, .int .i64 0, .string ⟨#[]⟩, .slice none 0 0, .string ⟨#[]⟩] ∧ Below w.heap.size w W from ⟨b0.later h, b1.later h, hW0.trans (Below.mono h hW0.size)⟩)
      clear b0 b1 hW0 hm hsz2
      generalize readT p.args = Y at *
      obtain ⟨Y1, Y2⟩ := Y
      dsimp only at *
      generalize hS1 : bs p.inter = S1 at *
      generalize bs p.args = S2 at *
      generalize bs p.text = S3 at *
      go_enter Tryd.func34, Tryd.ntmps34
      go_wp2_with fail
      refine HOF.out.mono ?_
      rintro e w2 ⟨v, rfl, ho, hb⟩
      obtain ⟨x0, x1, x2⟩ := HK.out w2 hb
      have hv := RdT.own ho
      obtain ⟨av, cv, ev, _⟩ := RdI.own ho
      subst ev
      have d1 : w2.cell? ⟨w.heap.size, 1, none⟩ = some (.int .i64 p.mark) := x0.cell (j := 1) rfl
      have d2 : w2.cell? ⟨w.heap.size, 2, none⟩ = some (.string S1) := x0.cell (j := 2) rfl
      have hLs : Lies w2 (.pointer (some ⟨w.heap.size + 1, 0, none⟩)) 6 := x1.lies0 rfl
      have hHo : Holds (.agg #[.int .i64 4, .int .i64 c, .int .i64 p.mark, .string S1, .slice av Y1.length cv, .string ⟨#[]⟩]) 6 := ⟨[.int .i64 4, .int .i64 c, .int .i64 p.mark, .string S1, .slice av Y1.length cv, .string ⟨#[]⟩], rfl, rfl, by
        intro u hu
        simp only [List.mem_cons, List.mem_nil_iff, or_false] at hu
        rcases hu with rfl | rfl | rfl | rfl | rfl | rfl <;> rfl⟩
      have hP := x1.putAt [.int .i64 4, .int .i64 c, .int .i64 p.mark, .string S1, .slice av Y1.length cv, .string ⟨#[]⟩] rfl
      have HF := Hid.mk' (show _ ∧ RdT (Q.putAt w2 (.pointer (some ⟨w.heap.size + 1, 0, none⟩)) (.agg #[.int .i64 4, .int .i64 c, .int .i64 p.mark, .string S1, .slice av Y1.length cv, .string ⟨#[]⟩])) (.slice av Y1.length cv) Y1 ∧ Below w.heap.size w (Q.putAt w2 (.pointer (some ⟨w.heap.size + 1, 0, none⟩)) (.agg #[.int .i64 4, .int .i64 c, .int .i64 p.mark, .string S1, .slice av Y1.length cv, .string ⟨#[]⟩])) from ⟨hP.box, hv.keep (KeepI.but x1 ai hP.other), hP.below _ _ (Nat.le_succ _) x2⟩)
      clear HOF HK ho hb x0 x1 x2 hv hP
      go_wp2
      exact ret_box Tryd.results34 35 [.int .i64 4, .int .i64 c, .int .i64 p.mark, .string S1, .slice av Y1.length cv, .string ⟨#[]⟩] (w.heap.size + 1) _ Tryd.underlying35 rfl sizeAct rfl HF.out.1 rfl ⟨.slice av Y1.length cv, by rw [← hS1]; rfl, HF.out.2.1, HF.out.2.2⟩
end Go.Proofs.YtneiiinheimglaaDoor.B
