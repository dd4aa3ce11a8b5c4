/-
  Ints that a call owns, a slice of ints that is read, append of ints that were just laid; condition: at most 2^44 ints.
  Contracts of args.withDigit, of the closure within args.Read, and of args.Read; no condition but a text's length of at most 2^62.
-/
import Derived.Test.YtneiiinheimglaaGreatDoorJ2
import Derived.Test.YtneiiinheimglaaGreatDoorZPlain
import Derived.BigQuiet
import Derived.Deep.LoopGhost
namespace Go.Proofs.YtneiiinheimglaaGreatDoor.Z
open Go.RowKit Go.Lib Go.Proofs.YtneiiinheimglaaGreatDoor Go.Proofs.YtneiiinheimglaaGreatDoor.W Go.Proofs.YtneiiinheimglaaGreatDoor.Q Go.Proofs.YtneiiinheimglaaGreatDoor.C

def icells (l : List Int) : List Value := l.map fun c => .int .i64 c
theorem icells_length (l : List Int) : (icells l).length = l.length := by simp [icells]
theorem icells_one (l : List Int) : ∀ u ∈ icells l, u.oneCell' = true := by
  intro u hu
  obtain ⟨c, _, rfl⟩ := List.mem_map.1 hu
  rfl
theorem icells_app (a b : List Int) : icells (a ++ b) = icells a ++ icells b := by simp [icells]
theorem infoInt : (Tryz.prog.info? 3).map (fun i => (i.zero, i.size, i.bytes)) = some (some (.int .i64 0), 1, 8) := by kernel_rfl
/-- ints that the call owns from a block on -/
def OwnI (w : World) (base : Nat) (v : Value) (l : List Int) : Prop := OwnR w base 3 1 v l.length (icells l)
theorem OwnI.nil (w : World) (base : Nat) : OwnI w base (.slice none 0 0) [] := OwnR.nil _ _ _ _
theorem OwnI.below {w w' : World} {base : Nat} {v : Value} {l : List Int} (h : OwnI w base v l) (hb : Below w.heap.size w w') : OwnI w' base v l := keptBy h hb
/-- append(v, ints that were just laid): v owned -/
theorem wpList_append_i (w : World) {ops : Array Oper} {rest : List Oper} {o : Oper} {a : Act} {Q : Exit → Act → World → Prop} (hwd : Region.wanted o (yielded ops a.tmps) = true) (s x : Operand)
    (ho : o.op = .call { callee := .builtin .append, args := #[s, x], argTypes := #[22, 22] })
    (base : Nat) (v : Value) (l m : List Int) (hs : a.eval s = v) (hown : OwnI w base v l) (ws : Array Value) (hws : ws = (icells m).toArray) (k c : Nat) (hx : a.eval x = .slice (some ⟨w.heap.size, 0, none⟩) k c) (hk : k = m.length) (hm : 0 < m.length) (hb : base ≤ w.heap.size) (hn : l.length + m.length ≤ 17592186044416)
    (h : ∀ v' w', OwnI w' base v' (l ++ m) → (∀ B W, B ≤ base → Below B W w → Below B W w') → wpList Tryz.prog ops Q rest (a.put o.dst v') w') : wpList Tryz.prog ops Q (o :: rest) a (w.alloc (.cells ws 3)) := by
  obtain ⟨i0, hi, hz0, hz1, hz2⟩ := info_parts infoInt
  unfold OwnI at hown h
  subst hws hk
  have hown' : OwnR (w.alloc (.cells (icells m).toArray 3)) base 3 1 v l.length (icells l) := hown.keptAt fun k hk => Below.heap_alloc _ _ _ (hown.lt k hk).2
  obtain ⟨g, c2, w', a1, a2, a3, _, _⟩ := run_append_R (P := Tryz.prog) (w.alloc (.cells (icells m).toArray 3)) 22 o.type base 3 i0 (.int .i64 0) 1 8 Tryz.underlying22 hi hz0 hz1 hz2 rfl (by decide) v l.length (icells l) hown' ⟨w.heap.size, 0, none⟩ m.length c (icells m) (by simp [icells])
    (fun j u hu => World.news_of_block (MapKept.heap_alloc w (.cells (icells m).toArray 3)).1 j u (by simpa using hu)) (icells_one m) hm (by unfold maxLen; omega) (by omega) (by simp; omega) _ rfl
  refine wpList_step fun K hK => ?_
  rw [if_pos hwd]
  unfold Oper.wp execOp
  simp only [ho, resolve, invoke, builtin, Sem.run_bind, Sem.run_pure, Result.andThen_ok, List.map_toArray, List.map_cons, List.map_nil, hs, hx, a1]
  refine hK _ _ (h _ w' ?_ ?_)
  · rw [List.length_append, icells_app]; exact a2
  · exact fun B W hB hBW => (hBW.alloc (by omega) _).grown a3 (by simp; omega) (fun k hk => by have := (hown.lt k hk).1; omega)

/-- a slice of ints, read -/
def RdI (w : World) (v : Value) (l : List Int) : Prop :=
  ∃ a cap, v = .slice a l.length cap ∧ l.length ≤ cap ∧ (l = [] ∨ ∃ b off, a = some ⟨b, off, none⟩ ∧ (∀ j (h : j < l.length), w.cell? ⟨b, off + j, none⟩ = some (.int .i64 l[j])) ∧ b < w.heap.size)
theorem RdI.below {w w' : World} {v : Value} {l : List Int} (h : RdI w v l) (hb : Below w.heap.size w w') : RdI w' v l := by
  obtain ⟨a, cap, e, hc, hr⟩ := h
  refine ⟨a, cap, e, hc, ?_⟩
  rcases hr with h | ⟨b, off, e2, hT, hbl⟩
  · exact .inl h
  · exact .inr ⟨b, off, e2, fun j h => (hb.cell (p := ⟨b, off + j, none⟩) hbl).trans (hT j h), by have := hb.size; omega⟩
theorem RdI.own {w : World} {base : Nat} {v : Value} {l : List Int} (h : OwnI w base v l) : RdI w v l := by
  unfold OwnI at h
  rcases h.form with ⟨rfl, e⟩ | ⟨g, cap, rfl, _, hg, hc⟩
  · have : l = [] := List.length_eq_zero_iff.1 e
    subst this
    exact ⟨none, 0, rfl, by simp, .inl rfl⟩
  · refine ⟨_, cap, rfl, hc, .inr ⟨g, 0, rfl, fun j hj => ?_, hg⟩⟩
    have := h.cells (g := g) rfl j (.int .i64 l[j]) (by simp [icells, hj])
    have hadd : (⟨g, 0, none⟩ : Addr).add j = ⟨g, j, none⟩ := by unfold Addr.add; split <;> simp_all
    rw [hadd] at this
    rw [Nat.zero_add]; exact this

end Go.Proofs.YtneiiinheimglaaGreatDoor.Z
namespace Go.Proofs.YtneiiinheimglaaGreatDoor.Z
open Go.RowKit Go.Lib Go.Proofs.YtneiiinheimglaaGreatDoor Go.Proofs.YtneiiinheimglaaGreatDoor.W Go.Proofs.YtneiiinheimglaaGreatDoor.Q Go.Proofs.YtneiiinheimglaaGreatDoor.C



def RS (w : World) (s : List UInt8) (g : Nat) (s12 : Value) (wr : World) : Prop :=
  ∃ (k : Nat) (sl : Value) (n : Int) (l : List Int), k ≤ s.length ∧ s.length - k ≤ g ∧ s12 = .int .i64 (k : Int) ∧ Hid (Box wr w.heap.size 22 [sl]) ∧ Hid (Box wr (w.heap.size + 1) 3 [.int .i64 n]) ∧ Hid (OwnI wr (w.heap.size + 2) sl l) ∧
    Hid (okS s = okS (s.drop k)) ∧ Hid (rd s (-1) [] = rd (s.drop k) n l) ∧ Hid (l.length ≤ 32) ∧ Hid (right n) ∧ Hid (Below w.heap.size w wr) ∧ Hid (w.heap.size + 2 ≤ wr.heap.size)

theorem OwnI.weak {w : World} {B B' : Nat} {v : Value} {l : List Int} (h : OwnI w B v l) (hB : B' ≤ B) : OwnI w B' v l := by
  unfold OwnI OwnR at *
  refine ⟨h.1, ?_⟩
  rcases h.2 with hn | ⟨g, cap, cur, fz, e, hb, rest⟩
  · exact .inl hn
  · exact .inr ⟨g, cap, cur, fz, e, by omega, rest⟩
theorem rd_dig {b : UInt8} {r : List UInt8} {n : Int} {l : List Int} (h : dig b = true) : rd (b :: r) n l = rd r (wd n ((b.toNat : Int) - 48)) l := by
  rw [rd, if_neg (dig_not h)]
theorem ok_dig {b : UInt8} {r : List UInt8} (h : okB b = true) : okS (b :: r) = okS r := by
  unfold okS
  rw [List.all_cons, h, Bool.true_and]
theorem ok_no {b : UInt8} {r : List UInt8} (h : okB b = false) : okS (b :: r) = false := by
  unfold okS
  rw [List.all_cons, h, Bool.false_and]
theorem okB_dig {b : UInt8} (h : dig b = true) : okB b = true := by unfold okB; rw [h]; rfl

end Go.Proofs.YtneiiinheimglaaGreatDoor.Z
