/-
  An editor at work in memory: its block, its three rows; what an append, a store, a cut leave of it; conditions: the bounds that each law names.
-/
import Derived.Test.YtomgnnbcaficaaaDoorLTyp
import Derived.Test.YtomgnnbcaficaaaDoorKCells
import Derived.Test.YtomgnnbcaficaaaDoorHCells
import Derived.Deep.AppendSrc
import Derived.WalkSpells
namespace Go.Proofs.YtomgnnbcaficaaaDoor.L
open Go.RowKit Go.Lib Go.Proofs.YtomgnnbcaficaaaDoor Go.Proofs.YtomgnnbcaficaaaDoor.W Go.Proofs.YtomgnnbcaficaaaDoor.Q

def bs (l : List UInt8) : ByteArray := ⟨l.toArray⟩
theorem bs_size (l : List UInt8) : (bs l).size = l.length := W.size_mk l
theorem bs_of (s : ByteArray) : bs s.data.toList = s := by unfold bs; rw [Array.toArray_toList]
theorem bs_list (l : List UInt8) : (bs l).toList = l := by rw [ByteArray.toList_eq]; rfl
theorem bs_data (l : List UInt8) : (bs l).data.toList = l := rfl
theorem bs_app (a b : List UInt8) : bs a ++ bs b = bs (a ++ b) := bytes_append a b
theorem bs_get (l : List UInt8) (k : Nat) (h : k < l.length) (h2 : k < (bs l).size) : (bs l)[k]'h2 = l[k]'h := rfl
theorem bs_inj {a b : List UInt8} (h : bs a = bs b) : a = b := by
  have := congrArg (fun s : ByteArray => s.data.toList) h
  exact this

def blk (ad : Option Addr) : Option Nat := ad.map (·.block)
theorem ownBlock_slice (ad : Option Addr) (n c : Nat) : (Value.slice ad n c).ownBlock = blk ad := by cases ad <;> rfl
def scells (l : List (List UInt8)) : List Value := l.map fun x => .string (bs x)
theorem scells_length (l : List (List UInt8)) : (scells l).length = l.length := by simp [scells]
theorem scells_one (l : List (List UInt8)) : ∀ u ∈ scells l, u.oneCell' = true := by
  intro u hu
  obtain ⟨c, _, rfl⟩ := List.mem_map.1 hu
  rfl
theorem scells_app (a b : List (List UInt8)) : scells (a ++ b) = scells a ++ scells b := by simp [scells]
theorem infoString : (Tryd.prog.info? 9).map (fun i => (i.zero, i.size, i.bytes)) = some (some (.string ⟨#[]⟩), 1, 16) := by kernel_rfl

/-- what an append leaves -/
structure App (w w' : World) (base : Nat) (e : TypeId) (ad ad' : Option Addr) (n' cap' : Nat) (xs : List Value) : Prop where
  own : OwnR w' base e 1 (.slice ad' n' cap') n' xs
  grown : w.grownBy w' (blk ad)
  at' : blk ad' = blk ad ∨ blk ad' = some w.heap.size

section
variable {P : Program} (w : World)
/-- append onto a row of one's own, of whatever is appended -/
theorem run_append_1 (t tx ty : TypeId) (base : Nat) (e : TypeId) (i : TypeInfo) (z : Value) (bytes : Nat) (ht : P.underlying t = some (.slice e)) (hi : P.info? e = some i) (hz : i.zero = some z)
    (hsize : i.size = 1) (hby : i.bytes = bytes) (hzs : z.cells.size = 1)
    (ad : Option Addr) (n cap : Nat) (xs : List Value) (hown : OwnR w base e 1 (.slice ad n cap) n xs) (x : Value) (m : Nat) (news : List Value) (hs : Src P 1 tx x m news w)
    (h63 : n + m ≤ maxLen) (hbytes : (n + m) * bytes ≤ 140737488355328) (hbase : base ≤ w.heap.size) :
    ∃ ad' cap' w', (Builtin.append_ #[t, tx] ty #[.slice ad n cap, x]).run P w = .ok (.slice ad' (n + m) cap') w' ∧ App w w' base e ad ad' (n + m) cap' (xs ++ news) := by
  have hs1 : Src P i.size tx x m news w := by rw [hsize]; exact hs
  have hxl : xs.length = n := by simpa using hown.1
  have hnl : news.length = m := by simpa using hs.newsLen
  have hlen : (xs ++ news).length = (n + m) * 1 := by rw [List.length_append, hxl, hnl, Nat.mul_one]
  have hsmall : n + m ≤ 9223372036854775807 := by simp only [maxLen] at h63; omega
  by_cases hroom : n + m ≤ cap
  · rcases hown.2 with ⟨hv, h0⟩ | ⟨g, cap2, cur, fz, hv, hbg, hg, hfz, hnc, hcm, hcs, htake⟩
    · simp only [Value.slice.injEq] at hv
      obtain ⟨rfl, _, rfl⟩ := hv
      obtain rfl : n = 0 := h0
      obtain rfl : m = 0 := by omega
      have hn0 : news = [] := List.length_eq_zero_iff.1 hnl
      have hx0 : xs = [] := List.length_eq_zero_iff.1 hxl
      subst hn0 hx0
      refine ⟨none, 0, w, ?_, ⟨OwnR.nil _ _ _ _, ⟨rfl, rfl, rfl, Nat.le_refl _, fun _ _ _ => rfl⟩, .inl rfl⟩⟩
      rcases hs.kind with ⟨e', hk⟩ | hk <;> simp [Builtin.append_, run_underlying ht, run_underlying hk, sizeOf, typeInfo, hi, hs.len, hs1.cells]
    · simp only [Value.slice.injEq] at hv
      obtain ⟨rfl, _, rfl⟩ := hv
      rw [Nat.mul_one] at hcs htake
      have hfit : n + 0 + news.length ≤ cur.size := by omega
      have hst : (storeCells ⟨g, n, none⟩ news 0).run P w = .ok () (w.setRow g (cur.toList.take n ++ news ++ cur.toList.drop (n + news.length)).toArray) := by
        rcases hfz with rfl | hfz
        · have := run_storeCells_at P g n e news 0 cur w hg hfit hs.one
          simpa using this
        · have := run_storeCells_B P g n e fz news 0 cur w hg hfz hfit hs.one
          simpa using this
      have hr : (Builtin.append_ #[t, tx] ty #[.slice (some ⟨g, 0, none⟩) n cap, x]).run P w = .ok (.slice (some ⟨g, 0, none⟩) (n + m) cap) (w.setRow g (cur.toList.take n ++ news ++ cur.toList.drop (n + news.length)).toArray) := by
        have hc := hs1.cells
        rcases hs.kind with ⟨e', hk⟩ | hk <;> (rw [hsize] at hc; simp [Builtin.append_, run_underlying ht, run_underlying hk, sizeOf, typeInfo, hi, hsize, hs.len, hroom, hc, Addr.add_lit, hst])
      have hsz2 : (cur.toList.take n ++ news ++ cur.toList.drop (n + news.length)).toArray.size = cur.size := by
        simp only [List.size_toArray, List.length_append, List.length_take, List.length_drop, Array.length_toList]
        omega
      refine ⟨some ⟨g, 0, none⟩, cap, _, hr, ⟨⟨hlen, .inr ⟨g, cap, _, fz, rfl, hbg, setRow_heap w g cur _ e fz hg, ?_, hroom, hcm, by rw [hsz2, Nat.mul_one]; exact hcs, ?_⟩⟩, ⟨rfl, rfl, rfl, by simp, fun k _ hk => setRow_other w g k _ (fun e => hk (by simp [blk, e]))⟩, .inl rfl⟩⟩
      · rcases hfz with h | h
        · exact .inl h
        · exact .inr (by rw [hsz2]; exact h)
      · rw [htake, ← hlen]
        exact List.take_left
  · have hold : (Builtin.firstCells i.size n (.slice ad n cap)).run P w.drew = .ok xs.toArray w.drew := by
      rcases hown.form with ⟨hv, h0⟩ | ⟨g, cap2, hv, _⟩
      · simp only [Value.slice.injEq] at hv
        obtain ⟨rfl, _, rfl⟩ := hv
        subst h0
        have : xs = [] := List.length_eq_zero_iff.1 hxl
        subst this
        exact run_firstCells_none w.drew i.size 0 0 0
      · simp only [Value.slice.injEq] at hv
        obtain ⟨rfl, _, rfl⟩ := hv
        exact run_firstCells_some w.drew i.size n ⟨g, 0, none⟩ n cap xs (by rw [hsize]; exact hown.1) (fun j u hu => hown.cells (g := g) rfl j u hu)
    have hr := run_append_grow_src (P := P) w t tx ty e i z ht hi hz ad n cap xs hold x m news hs1 (by omega) (by omega) (by rw [hby]; exact growslice_fits (by omega) hbytes)
    have hge := grownCap_ge w (n + m) cap e
    have hcm2 : grownCap w (n + m) cap e ≤ maxLen := grownCap_le_maxLen w (n + m) cap e h63
    refine ⟨_, _, _, hr, ⟨⟨hlen, .inr ⟨w.heap.size, _, _, (0, 0), rfl, hbase, heap_alloc_new w.drew _, .inl rfl, hge, hcm2, ?_, ?_⟩⟩, ⟨rfl, rfl, rfl, by simp, fun k hk hne => (World.grownBy_alloc w.drew _ _).block k hk hne⟩, .inr rfl⟩⟩
    · simp only [Array.size_append, List.size_toArray, size_zeroCells, List.length_append, hxl, hnl, hzs]
      omega
    · simp only [Array.toList_append]
      rw [← hlen]
      exact List.take_left
end

/-- the cells of an editor at work -/
def tcells (k : List UInt8) (M : List Nat) (vb : Value) (q : Bool) (vl ve : Value) : List Value := bcells k ++ (ucells M ++ [vb, .bool q, vl, ve])
  where ucells (M : List Nat) : List Value := H.ucells M
theorem tcells_length {k : List UInt8} {M : List Nat} (hk : k.length = 38) (hM : M.length = 4) (vb : Value) (q : Bool) (vl ve : Value) : (tcells k M vb q vl ve).length = 46 := by
  simp [tcells, tcells.ucells, H.ucells_length, bcells_length, hk, hM]
theorem tcells_hi {k : List UInt8} {M : List Nat} (hk : k.length = 38) (hM : M.length = 4) (vb : Value) (q : Bool) (vl ve : Value) (j : Nat) : (tcells k M vb q vl ve)[42 + j]? = [vb, .bool q, vl, ve][j]? := by
  unfold tcells tcells.ucells
  rw [List.getElem?_append_right (by rw [bcells_length, hk]; omega), List.getElem?_append_right (by rw [bcells_length, hk, H.ucells_length, hM]; omega), bcells_length, hk, H.ucells_length, hM]
  congr 1
  omega
theorem tcells_set {k : List UInt8} {M : List Nat} (hk : k.length = 38) (hM : M.length = 4) (vb : Value) (q : Bool) (vl ve : Value) (j : Nat) (v : Value) : (tcells k M vb q vl ve).set (42 + j) v = bcells k ++ (H.ucells M ++ [vb, .bool q, vl, ve].set j v) := by
  unfold tcells tcells.ucells
  rw [List.set_append_right _ _ (by rw [bcells_length, hk]; omega), List.set_append_right _ _ (by rw [bcells_length, hk, H.ucells_length, hM]; omega), bcells_length, hk, H.ucells_length, hM]
  congr 3
  omega
theorem tcells_key {k : List UInt8} {M : List Nat} (hk : k.length = 38) (vb : Value) (q : Bool) (vl ve : Value) (j : Nat) (hj : j < 38) : (tcells k M vb q vl ve)[j]? = (bcells k)[j]? := by
  unfold tcells
  rw [List.getElem?_append_left (by rw [bcells_length, hk]; exact hj)]
theorem tcells_mask {k : List UInt8} {M : List Nat} (hk : k.length = 38) (hM : M.length = 4) (vb : Value) (q : Bool) (vl ve : Value) : ((tcells k M vb q vl ve).drop 38).take 4 = H.ucells M := by
  unfold tcells tcells.ucells
  have e1 : (bcells k).length = 38 := by rw [bcells_length, hk]
  have e2 : (H.ucells M).length = 4 := by rw [H.ucells_length, hM]
  rw [← e1, List.drop_left, ← e2, List.take_left]

structure TS (base : Nat) (w : World) (b : Nat) (k : List UInt8) (M : List Nat) (ab : Option Addr) (nb cb : Nat) (al : Option Addr) (nl cl : Nat) (ae : Option Addr) (ne ce : Nat) (s : S) : Prop where
  kl : k.length = 38
  ml : M.length = 4
  box : Box w b 64 (tcells k M (.slice ab nb cb) s.q (.slice al nl cl) (.slice ae ne ce))
  lo : base ≤ b
  eb : nb = s.buf.length
  el : nl = s.ls.length
  ee : ne = s.echo.length
  ob : OwnR w base 5 1 (.slice ab nb cb) nb (bcells s.buf)
  ol : OwnR w base 9 1 (.slice al nl cl) nl (scells s.ls)
  oe : OwnR w base 5 1 (.slice ae ne ce) ne (bcells s.echo)
  nebe : ∀ g, blk ab = some g → blk ae ≠ some g
/-- .. whatever its rows are -/
def TX (base : Nat) (w : World) (b : Nat) (k : List UInt8) (M : List Nat) (s : S) : Prop := ∃ ab nb cb al nl cl ae ne ce, TS base w b k M ab nb cb al nl cl ae ne ce s

section
variable {base : Nat} {w w' : World} {b : Nat} {k : List UInt8} {M : List Nat} {ab : Option Addr} {nb cb : Nat} {al : Option Addr} {nl cl : Nat} {ae : Option Addr} {ne ce : Nat} {s : S}
theorem TS.lt (h : TS base w b k M ab nb cb al nl cl ae ne ce s) : b < w.heap.size := h.box.lt
theorem TS.base_le (h : TS base w b k M ab nb cb al nl cl ae ne ce s) : base ≤ w.heap.size := by have := h.lo; have := h.lt; omega
theorem TS.c42 (h : TS base w b k M ab nb cb al nl cl ae ne ce s) : w.cell? ⟨b, 42, none⟩ = some (.slice ab nb cb) := h.box.cell (tcells_hi h.kl h.ml _ _ _ _ 0)
theorem TS.c43 (h : TS base w b k M ab nb cb al nl cl ae ne ce s) : w.cell? ⟨b, 43, none⟩ = some (.bool s.q) := h.box.cell (tcells_hi h.kl h.ml _ _ _ _ 1)
theorem TS.c44 (h : TS base w b k M ab nb cb al nl cl ae ne ce s) : w.cell? ⟨b, 44, none⟩ = some (.slice al nl cl) := h.box.cell (tcells_hi h.kl h.ml _ _ _ _ 2)
theorem TS.c45 (h : TS base w b k M ab nb cb al nl cl ae ne ce s) : w.cell? ⟨b, 45, none⟩ = some (.slice ae ne ce) := h.box.cell (tcells_hi h.kl h.ml _ _ _ _ 3)
theorem TS.fr (h : TS base w b k M ab nb cb al nl cl ae ne ce s) (j : Nat) : w.frozen? ⟨b, j, none⟩ = false := h.box.frozen j
theorem TS.lv (h : TS base w b k M ab nb cb al nl cl ae ne ce s) (f : Nat) (hf : f < 19) : w.cell? ⟨b, f, none⟩ = some (.int .u8 ((K.lv k f).toNat : Int)) := h.box.cell (by rw [tcells_key h.kl _ _ _ _ _ (by omega)]; exact K.bcells_lv k h.kl f hf)
theorem TS.ch (h : TS base w b k M ab nb cb al nl cl ae ne ce s) (f : Nat) (hf : f < 19) : w.cell? ⟨b, 19 + f, none⟩ = some (.int .u8 ((K.ch k f).toNat : Int)) := h.box.cell (by rw [tcells_key h.kl _ _ _ _ _ (by omega)]; exact K.bcells_ch k h.kl f hf)
theorem own_other {e e' : TypeId} {l : List Value} {v : Value} {n : Nat} {xs : List Value} (hB : Box w b e' l) (hne : e ≠ e') (ho : OwnR w base e 1 v n xs) : v.ownBlock ≠ some b := fun e1 => by
  obtain ⟨cur, fz, hc⟩ := ho.typed b e1
  unfold Box at hB
  rw [hB] at hc
  simp only [Option.some.injEq, Obj.cells.injEq] at hc
  exact hne hc.2.1.symm
theorem own_apart {e e' : TypeId} {v v' : Value} {n n' : Nat} {xs xs' : List Value} (hne : e ≠ e') (ho : OwnR w base e 1 v n xs) (ho' : OwnR w base e' 1 v' n' xs') (g : Nat) (hg : v.ownBlock = some g) : v'.ownBlock ≠ some g := fun e1 => by
  obtain ⟨cur, fz, hc⟩ := ho.typed g hg
  obtain ⟨cur', fz', hc'⟩ := ho'.typed g e1
  rw [hc] at hc'
  simp only [Option.some.injEq, Obj.cells.injEq] at hc'
  exact hne hc'.2.1
theorem ut : (5 : TypeId) ≠ 64 := by decide
theorem st : (9 : TypeId) ≠ 64 := by decide
theorem us : (5 : TypeId) ≠ 9 := by decide
theorem TS.bb (h : TS base w b k M ab nb cb al nl cl ae ne ce s) : blk ab ≠ some b := by have := own_other h.box ut h.ob; rwa [ownBlock_slice] at this
theorem TS.bl (h : TS base w b k M ab nb cb al nl cl ae ne ce s) : blk al ≠ some b := by have := own_other h.box st h.ol; rwa [ownBlock_slice] at this
theorem TS.be (h : TS base w b k M ab nb cb al nl cl ae ne ce s) : blk ae ≠ some b := by have := own_other h.box ut h.oe; rwa [ownBlock_slice] at this
theorem TS.abl (h : TS base w b k M ab nb cb al nl cl ae ne ce s) (g : Nat) (hg : blk ab = some g) : blk al ≠ some g := by have := own_apart us h.ob h.ol g (by rw [ownBlock_slice]; exact hg); rwa [ownBlock_slice] at this
theorem TS.ael (h : TS base w b k M ab nb cb al nl cl ae ne ce s) (g : Nat) (hg : blk ae = some g) : blk al ≠ some g := by have := own_apart us h.oe h.ol g (by rw [ownBlock_slice]; exact hg); rwa [ownBlock_slice] at this
theorem TS.hb (h : TS base w b k M ab nb cb al nl cl ae ne ce s) (g : Nat) (hg : blk ab = some g) : base ≤ g ∧ g < w.heap.size := h.ob.lt g (by rw [ownBlock_slice]; exact hg)
theorem TS.hl (h : TS base w b k M ab nb cb al nl cl ae ne ce s) (g : Nat) (hg : blk al = some g) : base ≤ g ∧ g < w.heap.size := h.ol.lt g (by rw [ownBlock_slice]; exact hg)
theorem TS.he (h : TS base w b k M ab nb cb al nl cl ae ne ce s) (g : Nat) (hg : blk ae = some g) : base ≤ g ∧ g < w.heap.size := h.oe.lt g (by rw [ownBlock_slice]; exact hg)

/-- all blocks as they were -/
theorem TS.move (h : TS base w b k M ab nb cb al nl cl ae ne ce s) (hw : ∀ g, g < w.heap.size → w'.heap[g]? = w.heap[g]?) : TS base w' b k M ab nb cb al nl cl ae ne ce s :=
  ⟨h.kl, h.ml, h.box.kept (hw b h.lt), h.lo, h.eb, h.el, h.ee, h.ob.keptAt (fun g hg => hw g (h.ob.lt g hg).2), h.ol.keptAt (fun g hg => hw g (h.ol.lt g hg).2), h.oe.keptAt (fun g hg => hw g (h.oe.lt g hg).2), h.nebe⟩
theorem TS.alloc (h : TS base w b k M ab nb cb al nl cl ae ne ce s) (o : Obj) : TS base (w.alloc o) b k M ab nb cb al nl cl ae ne ce s := h.move fun g hg => Below.heap_alloc w o g hg
theorem TS.drew (h : TS base w b k M ab nb cb al nl cl ae ne ce s) : TS base w.drew b k M ab nb cb al nl cl ae ne ce s := h.move fun _ _ => rfl
theorem TS.drewN (h : TS base w b k M ab nb cb al nl cl ae ne ce s) (n : Nat) : TS base (w.drewN n) b k M ab nb cb al nl cl ae ne ce s := h.move fun _ _ => rfl

theorem below_set {W w1 : World} {row : Option Nat} (hg : W.grownBy w1 row) (hbase : base ≤ W.heap.size) (hr : ∀ g, row = some g → base ≤ g) (hb : base ≤ b) (j : Nat) (v : Value) : Below base W (w1.setCell ⟨b, j, none⟩ v) :=
  ((Below.refl base W).grown hg hbase hr).setCell (p := ⟨b, j, none⟩) hb v

/-- the line: another row, stored -/
theorem TS.setBuf (h : TS base w b k M ab nb cb al nl cl ae ne ce s) {ab' : Option Addr} {nb' cb' : Nat} {l : List UInt8} (hA : App w w' base 5 ab ab' nb' cb' (bcells l)) :
    TS base (w'.setCell ⟨b, 42, none⟩ (.slice ab' nb' cb')) b k M ab' nb' cb' al nl cl ae ne ce ⟨l, s.q, s.ls, s.echo⟩ := by
  have hbx : Box w' b 64 _ := h.box.kept (hA.grown.block b h.lt (fun e => h.bb e.symm))
  have hoth : ∀ g, g ≠ b → (w'.setCell ⟨b, 42, none⟩ (.slice ab' nb' cb')).heap[g]? = w'.heap[g]? := fun g hg => setCell_other _ _ _ _ hg
  have hn : nb' = l.length := by have := hA.own.1; rw [bcells_length] at this; omega
  refine ⟨h.kl, h.ml, ?_, h.lo, hn, h.el, h.ee, ?_, ?_, ?_, ?_⟩
  · have := hbx.setCell 42 (.slice ab' nb' cb')
    rw [show 42 = 42 + 0 from rfl, tcells_set h.kl h.ml] at this
    exact this
  · refine hA.own.keptAt fun g hg => hoth g ?_
    rintro rfl
    exact own_other hbx ut hA.own hg
  · refine h.ol.keptAt fun g hg => ?_
    rw [ownBlock_slice] at hg
    exact (hoth g (fun e => h.bl (e ▸ hg))).trans (hA.grown.block g (h.hl g hg).2 (fun e => h.abl g e.symm hg))
  · refine h.oe.keptAt fun g hg => ?_
    rw [ownBlock_slice] at hg
    exact (hoth g (fun e => h.be (e ▸ hg))).trans (hA.grown.block g (h.he g hg).2 (fun e => h.nebe g e.symm hg))
  · intro g hg he
    rcases hA.at' with e | e
    · exact h.nebe g (e ▸ hg) he
    · have := (h.he g he).2
      rw [e] at hg
      simp only [Option.some.injEq] at hg
      omega
/-- what is shown: another row, stored -/
theorem TS.setEcho (h : TS base w b k M ab nb cb al nl cl ae ne ce s) {ae' : Option Addr} {ne' ce' : Nat} {l : List UInt8} (hA : App w w' base 5 ae ae' ne' ce' (bcells l)) :
    TS base (w'.setCell ⟨b, 45, none⟩ (.slice ae' ne' ce')) b k M ab nb cb al nl cl ae' ne' ce' ⟨s.buf, s.q, s.ls, l⟩ := by
  have hbx : Box w' b 64 _ := h.box.kept (hA.grown.block b h.lt (fun e => h.be e.symm))
  have hoth : ∀ g, g ≠ b → (w'.setCell ⟨b, 45, none⟩ (.slice ae' ne' ce')).heap[g]? = w'.heap[g]? := fun g hg => setCell_other _ _ _ _ hg
  have hn : ne' = l.length := by have := hA.own.1; rw [bcells_length] at this; omega
  refine ⟨h.kl, h.ml, ?_, h.lo, h.eb, h.el, hn, ?_, ?_, ?_, ?_⟩
  · have := hbx.setCell 45 (.slice ae' ne' ce')
    rw [show 45 = 42 + 3 from rfl, tcells_set h.kl h.ml] at this
    exact this
  · refine h.ob.keptAt fun g hg => ?_
    rw [ownBlock_slice] at hg
    exact (hoth g (fun e => h.bb (e ▸ hg))).trans (hA.grown.block g (h.hb g hg).2 (fun e => h.nebe g hg e.symm))
  · refine h.ol.keptAt fun g hg => ?_
    rw [ownBlock_slice] at hg
    exact (hoth g (fun e => h.bl (e ▸ hg))).trans (hA.grown.block g (h.hl g hg).2 (fun e => h.ael g e.symm hg))
  · refine hA.own.keptAt fun g hg => hoth g ?_
    rintro rfl
    exact own_other hbx ut hA.own hg
  · intro g hg he
    rcases hA.at' with e | e
    · exact h.nebe g hg (e ▸ he)
    · have := (h.hb g hg).2
      rw [e] at he
      simp only [Option.some.injEq] at he
      omega
/-- the lines that were sent: another row, stored -/
theorem TS.setLines (h : TS base w b k M ab nb cb al nl cl ae ne ce s) {al' : Option Addr} {nl' cl' : Nat} {l : List (List UInt8)} (hA : App w w' base 9 al al' nl' cl' (scells l)) :
    TS base (w'.setCell ⟨b, 44, none⟩ (.slice al' nl' cl')) b k M ab nb cb al' nl' cl' ae ne ce ⟨s.buf, s.q, l, s.echo⟩ := by
  have hbx : Box w' b 64 _ := h.box.kept (hA.grown.block b h.lt (fun e => h.bl e.symm))
  have hoth : ∀ g, g ≠ b → (w'.setCell ⟨b, 44, none⟩ (.slice al' nl' cl')).heap[g]? = w'.heap[g]? := fun g hg => setCell_other _ _ _ _ hg
  have hn : nl' = l.length := by have := hA.own.1; rw [scells_length] at this; omega
  refine ⟨h.kl, h.ml, ?_, h.lo, h.eb, hn, h.ee, ?_, ?_, ?_, h.nebe⟩
  · have := hbx.setCell 44 (.slice al' nl' cl')
    rw [show 44 = 42 + 2 from rfl, tcells_set h.kl h.ml] at this
    exact this
  · refine h.ob.keptAt fun g hg => ?_
    rw [ownBlock_slice] at hg
    exact (hoth g (fun e => h.bb (e ▸ hg))).trans (hA.grown.block g (h.hb g hg).2 (fun e => h.abl g hg e.symm))
  · refine hA.own.keptAt fun g hg => hoth g ?_
    rintro rfl
    exact own_other hbx st hA.own hg
  · refine h.oe.keptAt fun g hg => ?_
    rw [ownBlock_slice] at hg
    exact (hoth g (fun e => h.be (e ▸ hg))).trans (hA.grown.block g (h.he g hg).2 (fun e => h.ael g hg e.symm))
/-- is the next byte taken as it is: stored -/
theorem TS.setQ (h : TS base w b k M ab nb cb al nl cl ae ne ce s) (q : Bool) : TS base (w.setCell ⟨b, 43, none⟩ (.bool q)) b k M ab nb cb al nl cl ae ne ce ⟨s.buf, q, s.ls, s.echo⟩ := by
  have hoth : ∀ g, g ≠ b → (w.setCell ⟨b, 43, none⟩ (.bool q)).heap[g]? = w.heap[g]? := fun g hg => setCell_other _ _ _ _ hg
  refine ⟨h.kl, h.ml, ?_, h.lo, h.eb, h.el, h.ee, h.ob.keptAt fun g hg => hoth g ?_, h.ol.keptAt fun g hg => hoth g ?_, h.oe.keptAt fun g hg => hoth g ?_, h.nebe⟩
  · have := h.box.setCell 43 (.bool q)
    rw [show 43 = 42 + 1 from rfl, tcells_set h.kl h.ml] at this
    exact this
  · rw [ownBlock_slice] at hg; rintro rfl; exact h.bb hg
  · rw [ownBlock_slice] at hg; rintro rfl; exact h.bl hg
  · rw [ownBlock_slice] at hg; rintro rfl; exact h.be hg
/-- a row cut -/
theorem own_cut {e : TypeId} {ad : Option Addr} {n c m : Nat} {xs : List Value} (h : OwnR w base e 1 (.slice ad n c) n xs) (hm : m ≤ n) : OwnR w base e 1 (.slice ad m c) m (xs.take m) := by
  refine ⟨by have := h.1; rw [List.length_take]; omega, ?_⟩
  rcases h.2 with ⟨hv, h0⟩ | ⟨g, cap, cur, fz, hv, hbg, hg, hfz, hnc, hcm, hcs, htake⟩
  · simp only [Value.slice.injEq] at hv
    obtain ⟨rfl, _, rfl⟩ := hv
    left
    have : m = 0 := by omega
    subst this
    exact ⟨rfl, rfl⟩
  · simp only [Value.slice.injEq] at hv
    obtain ⟨rfl, _, rfl⟩ := hv
    refine .inr ⟨g, c, cur, fz, rfl, hbg, hg, hfz, by omega, hcm, hcs, ?_⟩
    rw [← htake, List.take_take, Nat.mul_one, Nat.mul_one, Nat.min_eq_left hm]
theorem bcells_take (l : List UInt8) (m : Nat) : bcells (l.take m) = (bcells l).take m := by unfold bcells; rw [List.map_take]
theorem TS.cutBuf (h : TS base w b k M ab nb cb al nl cl ae ne ce s) {m : Nat} (hm : m ≤ nb) : TS base (w.setCell ⟨b, 42, none⟩ (.slice ab m cb)) b k M ab m cb al nl cl ae ne ce ⟨s.buf.take m, s.q, s.ls, s.echo⟩ := by
  have hA : App w w base 5 ab ab m cb (bcells (s.buf.take m)) := ⟨by rw [bcells_take]; exact own_cut h.ob hm, ⟨rfl, rfl, rfl, Nat.le_refl _, fun _ _ _ => rfl⟩, .inl rfl⟩
  exact h.setBuf hA
end
end Go.Proofs.YtomgnnbcaficaaaDoor.L
