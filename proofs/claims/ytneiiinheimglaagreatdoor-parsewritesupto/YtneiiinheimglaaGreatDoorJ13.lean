/-
  Contracts of parse.isParser, parse.Check, (*reader).read and parse.Feed; conditions: texts of at most 2^40 bytes, at most 2^38 runes.
  Contracts of slices.Equal at []int, farref.SameAct and farref.SameActs where both read the same; condition: at most 2^44 ints an act.
  Contracts of farkeep.runesIn at a text of signs below 128, and of farkeep.parseLives; condition: at most 1048576 bytes.
-/
import Derived.Test.YtneiiinheimglaaGreatDoorJ3
import Derived.Lib.OthersKept
namespace Go.Proofs.YtneiiinheimglaaGreatDoor.B
open Go.RowKit Go.Lib Go.Proofs.YtneiiinheimglaaGreatDoor Go.Proofs.YtneiiinheimglaaGreatDoor.W Go.Proofs.YtneiiinheimglaaGreatDoor.Q Go.Proofs.YtneiiinheimglaaGreatDoor.C Go.Proofs.YtneiiinheimglaaGreatDoor.Z



theorem run_take (p : Ps) (l : List Int) (k : Nat) (h : k < l.length) : run p (l.take (k + 1)) = ((step (run p (l.take k)).1 l[k]).1, (run p (l.take k)).2 ++ (step (run p (l.take k)).1 l[k]).2) := by
  rw [List.take_succ_eq_append_getElem h, run_app]
  simp [run]


/-- acts, read -/
def RdA (w : World) (v : Value) (L : List Ac) : Prop :=
  ∃ a cap, ∃ xs : List (Ac × Value), v = .slice a L.length cap ∧ L.length ≤ cap ∧ xs.map Prod.fst = L ∧ (∀ x ∈ xs, RdI w x.2 x.1.args) ∧
    (L = [] ∨ ∃ b off, a = some ⟨b, off, none⟩ ∧ b < w.heap.size ∧ ∀ j u, (asC xs)[j]? = some u → w.cell? ⟨b, off + j, none⟩ = some u)
theorem RdA.below {w w' : World} {v : Value} {L : List Ac} (h : RdA w v L) (hb : Below w.heap.size w w') : RdA w' v L := by
  obtain ⟨a, cap, xs, e, hc, em, hr, hx⟩ := h
  refine ⟨a, cap, xs, e, hc, em, fun x hx => (hr x hx).below hb, ?_⟩
  rcases hx with h | ⟨b, off, e2, hbl, hT⟩
  · exact .inl h
  · exact .inr ⟨b, off, e2, by have := hb.size; omega, fun j u hu => (hb.cell (p := ⟨b, off + j, none⟩) hbl).trans (hT j u hu)⟩
theorem RdA.own {w : World} {base : Nat} {ad : Option Addr} {cap : Nat} {xs : List (Ac × Value)} (h : OwnA w base ad cap xs) (hr : ∀ x ∈ xs, RdI w x.2 x.1.args) : RdA w (.slice ad xs.length cap) (xs.map Prod.fst) := by
  unfold OwnA at h
  refine ⟨ad, cap, xs, by simp, ?_, rfl, hr, ?_⟩
  · rw [List.length_map]
    rcases h.form with ⟨e, h0⟩ | ⟨g, cap', e, _, hg, hc⟩
    · omega
    · simp only [Value.slice.injEq] at e
      obtain ⟨rfl, _, rfl⟩ := e
      exact hc
  · rcases h.form with ⟨e, h0⟩ | ⟨g, cap', e, _, hg, hc⟩
    · have : xs = [] := List.length_eq_zero_iff.1 h0
      subst this
      exact .inl rfl
    · simp only [Value.slice.injEq] at e
      obtain ⟨rfl, _, rfl⟩ := e
      refine .inr ⟨g, 0, rfl, hg, fun j u hu => ?_⟩
      have a := h.cells (g := g) rfl j u hu
      have hadd : (⟨g, 0, none⟩ : Addr).add j = ⟨g, j, none⟩ := by unfold Addr.add; split <;> simp_all
      rw [hadd] at a
      rw [Nat.zero_add]
      exact a
/-- all but the blocks of parsers stay as they are -/
def KeepP (w w' : World) : Prop := ∀ (k : Nat) (cs : Array Value) (t : TypeId) (fz : Nat × Nat), t ≠ 39 → w.heap[k]? = some (.cells cs t fz) → w'.heap[k]? = some (.cells cs t fz)
theorem KeepP.of {w w' : World} (h : Below w.heap.size w w') : KeepP w w' := fun k cs t fz _ hk => by
  rw [h.block k (Array.getElem?_eq_some_iff.1 hk).1]
  exact hk
/-- acts, read, in blocks of acts and of ints -/
def RdAT (w : World) (v : Value) (L : List Ac) : Prop :=
  ∃ a cap, ∃ xs : List (Ac × Value), v = .slice a L.length cap ∧ L.length ≤ cap ∧ xs.map Prod.fst = L ∧ (∀ x ∈ xs, RdT w x.2 x.1.args) ∧
    (L = [] ∨ ∃ (g : Nat) (cur : Array Value) (fz : Nat × Nat), a = some ⟨g, 0, none⟩ ∧ w.heap[g]? = some (.cells cur 24 fz) ∧ ∀ (j : Nat) (u : Value), (asC xs)[j]? = some u → cur[j]? = some u)
theorem RdAT.keep {w w' : World} {v : Value} {L : List Ac} (h : RdAT w v L) (hk : KeepP w w') : RdAT w' v L := by
  obtain ⟨a, cap, xs, e, hc, em, hr, hx⟩ := h
  refine ⟨a, cap, xs, e, hc, em, fun x hx => (hr x hx).keep (fun k cs fz h => hk k cs _ fz (by decide) h), ?_⟩
  rcases hx with h | ⟨g, cur, fz, e2, hg, hT⟩
  · exact .inl h
  · exact .inr ⟨g, cur, fz, e2, hk _ _ _ _ (by decide) hg, hT⟩
theorem RdAT.below {w w' : World} {v : Value} {L : List Ac} (h : RdAT w v L) (hb : Below w.heap.size w w') : RdAT w' v L := h.keep (KeepP.of hb)
theorem RdAT.nil (w : World) : RdAT w (.slice none 0 0) [] := ⟨none, 0, [], rfl, Nat.le_refl _, rfl, (fun _ hx => by cases hx), .inl rfl⟩
theorem RdAT.rd {w : World} {v : Value} {L : List Ac} (h : RdAT w v L) : RdA w v L := by
  obtain ⟨a, cap, xs, e, hc, em, hr, hx⟩ := h
  refine ⟨a, cap, xs, e, hc, em, fun x hx => (hr x hx).rd, ?_⟩
  rcases hx with h | ⟨g, cur, fz, e2, hg, hT⟩
  · exact .inl h
  · refine .inr ⟨g, 0, e2, (Array.getElem?_eq_some_iff.1 hg).1, fun j u hu => ?_⟩
    rw [Nat.zero_add, cell_of_row w g j cur _ fz hg]
    exact hT j u hu
theorem exec_loadP (ρ : Operand → Value) (x : Operand) (dst : Option Tmp) (t : TypeId) (pos : String) (af : Array Edge) (g : Option (Nat × Bool)) (w : World) (h : Lies w (ρ x) 5) :
    (execOp ρ { dst := dst, op := .load 39 x, type := t, pos := pos, after := af, guard := g }).run Tryz.prog w = .ok (.value (.agg (Q.rowAt w (ρ x) 5).toArray)) w :=
  exec_load 39 5 _ Tryz.underlying39 rfl sizePs ρ x dst t pos af g w h
theorem exec_storeP (ρ : Operand → Value) (x y : Operand) (dst : Option Tmp) (t : TypeId) (pos : String) (af : Array Edge) (g : Option (Nat × Bool)) (w : World) (h : Lies w (ρ x) 5) (hy : Holds (ρ y) 5) :
    (execOp ρ { dst := dst, op := .store 39 x y, type := t, pos := pos, after := af, guard := g }).run Tryz.prog w = .ok .skip (Q.putAt w (ρ x) (ρ y)) :=
  exec_store 39 5 sizePs ρ x y dst t pos af g w h hy
attribute [local go_sem ↓] exec_loadP exec_storeP
def pcells (p : Ps) : List Value := [.int .i64 (p.st : Int), .int .i64 p.mark, .string (bs p.inter), .string (bs p.args), .string (bs p.text)]

end Go.Proofs.YtneiiinheimglaaGreatDoor.B
namespace Go.Proofs.YtneiiinheimglaaGreatDoor.B
open Go.RowKit Go.Lib Go.Proofs.YtneiiinheimglaaGreatDoor Go.Proofs.YtneiiinheimglaaGreatDoor.W Go.Proofs.YtneiiinheimglaaGreatDoor.Q Go.Proofs.YtneiiinheimglaaGreatDoor.C Go.Proofs.YtneiiinheimglaaGreatDoor.Z

set_option maxHeartbeats 4000000 in
theorem Equal_same (w : World) (v1 v2 : Value) (l : List Int) (h1 : RdI w v1 l) (h2 : RdI w v2 l) (hn : l.length ≤ 17592186044416) :
    Calls Tryz.prog 6 #[v1, v2] w fun e w' => e = .returned (.bool true) ∧ ∃ q, w' = w.drewN q := by
  obtain ⟨a1, c1, rfl, hc1, hr1⟩ := h1
  obtain ⟨a2, c2, rfl, hc2, hr2⟩ := h2
  go_enter Tryz.func6, Tryz.ntmps6
  go_wp2_with fail
  go_loopw [13] (fun s13 wr => ∃ k q : Nat, k ≤ l.length ∧ s13 = .int .i64 (k : Int) ∧ wr = w.drewN q) (fun i _ => l.length - (RowKit.intOf i).toNat)
  case atStart => exact ⟨0, 0, Nat.zero_le _, rfl, rfl⟩
  case round =>
    obtain ⟨k, q, hk, rfl, rfl⟩ := hrel
    by_cases hlt : k < l.length
    · rcases hr1 with h0 | ⟨b1, o1, rfl, t1, _⟩
      · subst h0; simp at hlt
      rcases hr2 with h0 | ⟨b2, o2, rfl, t2, _⟩
      · subst h0; simp at hlt
      have e1 := t1 k hlt
      have e2 := t2 k hlt
      have f1 : (w.drewN q).cell? ⟨b1, o1 + k, none⟩ = some (.int .i64 l[k]) := by rw [World.cell?_drewN]; exact e1
      have f2 : (w.drewN q).cell? ⟨b2, o2 + k, none⟩ = some (.int .i64 l[k]) := by rw [World.cell?_drewN]; exact e2
      clear t1 t2 e1 e2
      generalize l[k] = x at *
      have HD : Hid (∀ n, ∃ q', (w.drewN q).drewN n = w.drewN q') := fun n => ⟨_, World.drewN_drewN w q n⟩
      generalize w.drewN q = W at *
      go_wp2_with fail
      go_quiet (fail)
      go_wp2
      go_roundw
      case rel => obtain ⟨q', e⟩ := HD.out nq; exact ⟨k + 1, q', by omega, by go_num, e⟩
      case measure => simp [RowKit.intOf]; omega
    · obtain rfl : k = l.length := by omega
      clear hr1 hr2
      go_wp2
      go_ret
      exact ⟨rfl, q, rfl⟩

theorem same_self (s : ByteArray) : (s.toList == s.toList) = true := by simp
set_option maxHeartbeats 4000000 in
set_option maxRecDepth 100000 in
theorem SameAct_same (y : Ac) (va vb : Value) (w : World) (ha : RdI w va y.args) (hb : RdI w vb y.args) (hn : y.args.length ≤ 17592186044416) :
    Calls Tryz.prog 14 #[.agg (acells y va).toArray, .agg (acells y vb).toArray] w fun e w' => e = .returned (.bool true) ∧ Below w.heap.size w w' := by
  have H := Hid.mk' (fun W (hW : Below w.heap.size w W) => Equal_same W va vb y.args (ha.below hW) (hb.below hW) hn)
  have HW : Hid (Below w.heap.size w ((w.alloc (.cells (acells y va).toArray 24)).alloc (.cells (acells y vb).toArray 24))) := ((Below.refl _ _).alloc (Nat.le_refl _) _).alloc (by simp) _
  have HE := Hid.mk' (H.out _ HW.out)
  obtain ⟨a1, c1, e1, _⟩ := ha
  obtain ⟨a2, c2, e2, _⟩ := hb
  have s1 := same_self (bs y.inter)
  have s2 := same_self (bs y.text)
  subst e1 e2
  unfold acells at *
  generalize bs y.inter = S1 at *
  generalize bs y.text = S2 at *
  clear H
  go_enter Tryz.func14, Tryz.ntmps14
  go_wp2_with fail
  refine HE.out.mono ?_
  rintro e w2 ⟨rfl, q, rfl⟩
  have HF := Hid.mk' (below_drewN HW.out q)
  clear HE HW
  go_wp2
  go_ret
  exact ⟨rfl, HF.out⟩


end Go.Proofs.YtneiiinheimglaaGreatDoor.B
namespace Go.Proofs.YtneiiinheimglaaGreatDoor.B
open Go.RowKit Go.Lib Go.Proofs.YtneiiinheimglaaGreatDoor Go.Proofs.YtneiiinheimglaaGreatDoor.W Go.Proofs.YtneiiinheimglaaGreatDoor.Q Go.Proofs.YtneiiinheimglaaGreatDoor.C Go.Proofs.YtneiiinheimglaaGreatDoor.Z

theorem below_iter (w : World) (s : ByteArray) (p : Nat) : Below w.heap.size w (w.iter s p) := (Below.refl _ _).alloc (Nat.le_refl _) _
def RI (w : World) (T : List UInt8) (g : Nat) (s3 : Value) (wx : World) : Prop :=
  ∃ i : Nat, i ≤ T.length ∧ T.length - i ≤ g ∧ Hid (wx.heap[w.heap.size]? = some (.stringIter (bs T) i)) ∧ Hid (Below w.heap.size w wx) ∧ Hid (w.heap.size + 1 ≤ wx.heap.size) ∧ Hid (OwnI wx (w.heap.size + 1) s3 (asInts (T.take i)))

theorem asInts_take (T : List UInt8) (i : Nat) (h : i < T.length) : asInts (T.take (i + 1)) = asInts (T.take i) ++ [(T[i].toNat : Int)] := by
  unfold asInts
  rw [List.take_succ_eq_append_getElem h, List.map_append]
  rfl


/-- acts just laid -/
theorem RdA.lit (w : World) (xs : List (Ac × Value)) (hr : ∀ x ∈ xs, RdI w x.2 x.1.args) : RdA (w.alloc (.cells (asC xs).toArray 24)) (.slice (some ⟨w.heap.size, 0, none⟩) (xs.map Prod.fst).length (xs.map Prod.fst).length) (xs.map Prod.fst) := by
  refine ⟨_, _, xs, rfl, Nat.le_refl _, rfl, fun x hx => (hr x hx).below ((Below.refl _ _).alloc (Nat.le_refl _) _), .inr ⟨w.heap.size, 0, rfl, by simp, fun j u hu => ?_⟩⟩
  rw [Nat.zero_add]
  exact (Box.new w 24 (asC xs)).cell hu
theorem RdI.lit (w : World) (l : List Int) : RdI (w.alloc (.cells (icells l).toArray 3)) (.slice (some ⟨w.heap.size, 0, none⟩) l.length l.length) l := by
  refine ⟨_, _, rfl, Nat.le_refl _, .inr ⟨w.heap.size, 0, rfl, fun j hj => ?_, by simp⟩⟩
  rw [Nat.zero_add]
  exact (Box.new w 3 (icells l)).cell (by simp [icells, hj])
theorem RdI.nil (w : World) : RdI w (.slice none 0 0) [] := ⟨none, 0, rfl, Nat.le_refl _, .inl rfl⟩

def lv : List UInt8 := [97, 27, 91, 63, 50, 53, 104, 27, 93, 48, 59, 116, 7, 27, 40]
theorem lives_run : run p0 (asInts lv) = (⟨2, 0, [40], [], []⟩, [⟨1, 97, 0, [], [], []⟩, ⟨4, 104, 63, [], [25], []⟩, ⟨5, 0, 0, [], [], [48, 59, 116]⟩]) := by kernel_rfl

end Go.Proofs.YtneiiinheimglaaGreatDoor.B
