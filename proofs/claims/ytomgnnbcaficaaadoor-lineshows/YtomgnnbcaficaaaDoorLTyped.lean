/-
  Contract of line.Type; conditions: Keys of 38 bytes, a set of four words of 64 bits.
-/
import Derived.Test.YtomgnnbcaficaaaDoorLBuild
import Derived.BigRegion
namespace Go.Proofs.YtomgnnbcaficaaaDoor.L
open Go.RowKit Go.Lib Go.Proofs.YtomgnnbcaficaaaDoor Go.Proofs.YtomgnnbcaficaaaDoor.W Go.Proofs.YtomgnnbcaficaaaDoor.Q

/-- what is typed, and the error -/
def typeT (k : List UInt8) (M : List Nat) (B : List UInt8) (q : Bool) (T : List UInt8) : S × Int := if ref B.length k T.length = 0 then (runS (KK k M) ⟨B, q, [], []⟩ T, 0) else (⟨B, q, [], []⟩, ref B.length k T.length)
/-- lines that a call owns -/
def OwnL (w : World) (base : Nat) (al : Option Addr) (cl : Nat) (l : List (List UInt8)) : Prop := OwnR w base 9 1 (.slice al l.length cl) l.length (scells l)
def RT (p : S × Int) (al : Option Addr) (cl : Nat) : Value := .tuple #[EV (bs p.1.buf) p.1.q, .slice al p.1.ls.length cl, .string (bs p.1.echo), .int .i64 p.2]
/-- what Type leaves -/
def Typ (w : World) (p : S × Int) (e : Ending) (w' : World) : Prop := ∃ al cl, e = .returned (RT p al cl) ∧ OwnL w' w.heap.size al cl p.1.ls ∧ Below w.heap.size w w'

theorem own_base {w : World} {base base' : Nat} {e : TypeId} {size : Nat} {v : Value} {n : Nat} {xs : List Value} (h : OwnR w base e size v n xs) (hb : base' ≤ base) : OwnR w base' e size v n xs := by
  refine ⟨h.1, ?_⟩
  rcases h.2 with hn | ⟨g, cap, cur, fz, hv, hbg, rest⟩
  · exact .inl hn
  · exact .inr ⟨g, cap, cur, fz, hv, Nat.le_trans hb hbg, rest⟩
theorem own_bytes (w : World) (l : List UInt8) (hl : l.length ≤ 1000000) : OwnR (bytesWorld w 5 (bs l)) w.heap.size 5 1 (.slice (some ⟨w.heap.size, 0, none⟩) l.length (grownCap w l.length 0 5)) l.length (bcells l) := by
  have hsz := bs_size l
  have hge := grownCap_ge w l.length 0 5
  have hgm := grownCap_le_maxLen w l.length 0 5 (by unfold maxLen; omega)
  have hcs : (bytesCells w 5 (bs l)).size = grownCap w l.length 0 5 := by
    unfold bytesCells
    rw [hsz, Array.size_append, Array.size_map, Array.size_replicate]
    have : (bs l).data.size = l.length := hsz
    omega
  refine ⟨by simp [bcells], .inr ⟨w.heap.size, _, _, _, rfl, Nat.le_refl _, bytesWorld_at_new w 5 (bs l), .inr (Nat.le_refl _), hge, hgm, by rw [hcs, Nat.mul_one], ?_⟩⟩
  unfold bytesCells bcells
  rw [Array.toList_append, Nat.mul_one, List.take_left' (by simp [bs])]
  simp [bs]
theorem below_bytes (w : World) (e : TypeId) (s : ByteArray) : Below w.heap.size w (bytesWorld w e s) :=
  ⟨rfl, rfl, rfl, by rw [bytesWorld_size]; omega, fun k hk => bytesWorld_at_old w e s k hk⟩

section
variable {ops : Array Oper} {rest : List Oper} {op : Oper} {a : Act} {w : World} {Q : Exit → Act → World → Prop}
/-- an editor at work is built -/
theorem wpList_buildT (l : List Value) (pv : Array (Nat × Value)) (ps : Array (Nat × Operand)) (hb : (Instr.build 64 pv).run Tryd.prog w = .ok (.agg l.toArray) w) (hgd : op.guard = none) (ho : op.op = .build 64 ps) (hp : ps.map (fun p => (p.1, a.eval p.2)) = pv)
    (h : wpList Tryd.prog ops Q rest (a.put op.dst (.agg l.toArray)) w) : wpList Tryd.prog ops Q (op :: rest) a w :=
  wpList_plain hgd fun _ hK => by
    unfold Oper.wp execOp
    simp only [ho, hp, hb, Sem.run_bind, Sem.run_pure, Result.andThen_ok]
    exact hK _ _ h
end
/-- results: an Editor that lies in a block, and three more -/
theorem ret_ed {fn : Func} {R : Ending → World → Prop} {p p1 p2 p3 : Tmp} (h : fn.results = #[.cell p 23, .tmp p1, .tmp p2, .tmp p3]) {a : Act} {w : World} (t : TypeId) (l : List Value) (b : Nat) (hl : l.length = 2)
    (v1 v2 v3 : Value) (hp : a.tmps[p]? = some (.pointer (some ⟨b, 0, none⟩))) (hp1 : a.tmps[p1]? = some v1) (hp2 : a.tmps[p2]? = some v2) (hp3 : a.tmps[p3]? = some v3) (hB : Box w b t l) (h0 : a.defers = []) (hR : R (.returned (.tuple #[.agg l.toArray, v1, v2, v3])) w) : bodyPost Tryd.prog fn R .ret a w := by
  refine bodyPost_ret (v := .tuple #[.agg l.toArray, v1, v2, v3]) ?_ h0 hR
  simp [results, h, hp, hp1, hp2, hp3, asAddr, loadVar_box w 23 t l b _ Tryd.underlying23 rfl (by rw [hl]; exact sizeE) hB]

set_option maxHeartbeats 8000000 in
set_option maxRecDepth 100000 in
theorem Type_bad (k : List UInt8) (hk : k.length = 38) (M : List Nat) (B T : List UInt8) (q : Bool) (w : World) (hr : ref B.length k T.length ≠ 0) :
    Calls Tryd.prog 9 #[EV (bs B) q, K.KV k, H.MV M, .string (bs T)] w fun e w' => Typ w (⟨B, q, [], []⟩, ref B.length k T.length) e w' := by
  have HF := Hid.mk' (refusal_any (bs B) q k hk (bs T))
  have HS := Hid.mk' (K.sizeKV k hk)
  have HSE : Hid ((Tryd.prog.info? 23).map (·.size) = some (edCells (bs B) q).length) := sizeE
  have HOE := Hid.mk' (edCells_one (bs B) q)
  have HLE : Hid ((edCells ⟨#[]⟩ false).length = (edCells (bs B) q).length ∧ (edCells (bs B) q).length = 2) := ⟨rfl, rfl⟩
  have HZ := Hid.mk' zeroE
  have HQ : Hid (∀ (w' : World) er, er = ref B.length k T.length → Below w.heap.size w w' → Typ w (⟨B, q, [], []⟩, ref B.length k T.length) (.returned (.tuple #[.agg (edCells (bs B) q).toArray, .slice none 0 0, .string { data := #[] }, .int .i64 er])) w') := fun w' er he hb => by
    subst he
    exact ⟨none, 0, rfl, OwnR.nil _ _ _ _, hb⟩
  rw [bs_size, bs_size] at HF
  have hr2 : (ref B.length k T.length != 0) = true := bne_iff_ne.2 hr
  generalize hRR : ref B.length k T.length = r at *
  clear hRR
  unfold EV K.KV H.MV at *
  generalize hE : edCells (bs B) q = E at *
  generalize hZE : edCells ⟨#[]⟩ false = ZE at *
  clear hE hZE
  generalize bcells k = l at *
  generalize H.ucells M = m at *
  generalize bs T = TT at *
  clear hk
  go_enter Tryd.func9, Tryd.ntmps9
  go_wp2_with (refine wpList_box E 23 rfl _ rfl rfl ?_)
  intro w1 m1
  go_wp2_with (refine wpList_box l 26 rfl _ rfl rfl ?_)
  intro w2 m2
  go_wp2_with (refine wpList_box m 30 rfl _ rfl rfl ?_)
  intro w3 m3
  go_wp2_with (refine wpList_alloc ZE 23 HZ.out rfl rfl ?_)
  intro w4 m4
  have b1 := Hid.mk' (m4.keep (m3.keep (m2.keep m1.box)))
  have b2 := Hid.mk' (m4.keep (m3.keep m2.box))
  have b4 := Hid.mk' m4.box
  have z1 := m1.lt
  have z2 := m2.lt
  have z3 := m3.lt
  have z4 := m4.lt
  have HB4 := Hid.mk' (m4.below w.heap.size w (by omega) (m3.below _ _ (by omega) (m2.below _ _ (by omega) (m1.below _ _ (Nat.le_refl _) (Below.refl _ w)))))
  clear m1 m2 m3 m4
  go_wp2_with (first | (with_reducible refine wpList_load_box 23 23 E w.heap.size _ Tryd.underlying23 rfl HSE.out b1.out rfl _ rfl rfl ?_) | (with_reducible refine wpList_load_box 26 26 l w1.heap.size _ Tryd.underlying26 rfl HS.out b2.out rfl _ rfl rfl ?_))
  refine (HF.out _).mono ?_
  rintro e w5 ⟨rfl, h5⟩
  have b1 := Hid.mk' (b1.out.later h5)
  have b4 := Hid.mk' (b4.out.later h5)
  have HB5 := Hid.mk' (HB4.out.trans (Below.mono h5 (by omega)))
  clear h5 HB4 b2
  go_wp2_with (first | (with_reducible refine wpList_load_box 23 23 E w.heap.size _ Tryd.underlying23 rfl HSE.out b1.out rfl _ rfl rfl ?_) | (with_reducible refine wpList_store_box 23 23 ZE E w3.heap.size HSE.out HOE.out b4.out HLE.out.1 rfl _ _ rfl rfl rfl ?_))
  intro w6 s6
  have HB6 := Hid.mk' (s6.below w.heap.size w (by omega) HB5.out)
  have b6 := Hid.mk' s6.box
  clear s6
  go_wp2
  refine ret_ed rfl 23 E w3.heap.size HLE.out.2 _ _ _ rfl rfl rfl rfl b6.out rfl ?_
  exact HQ.out _ _ rfl HB6.out

theorem TS.strE {base : Nat} {w : World} {b : Nat} {k : List UInt8} {M : List Nat} {ab : Option Addr} {nb cb : Nat} {al : Option Addr} {nl cl : Nat} {ae : Option Addr} {ne ce : Nat} {s : S} (h : TS base w b k M ab nb cb al nl cl ae ne ce s) :
    (convert 48 9 (.slice ae ne ce)).run Tryd.prog w = .ok (.string (bs s.echo)) w := run_str (base := base) (l := s.echo) (by have := h.oe; unfold OwnB; rw [← h.ee]; exact this)
/-- all blocks from its own first one on as they were -/
theorem TS.moveB {base : Nat} {w w' : World} {b : Nat} {k : List UInt8} {M : List Nat} {ab : Option Addr} {nb cb : Nat} {al : Option Addr} {nl cl : Nat} {ae : Option Addr} {ne ce : Nat} {s : S} (h : TS base w b k M ab nb cb al nl cl ae ne ce s) (hw : ∀ g, base ≤ g → w'.heap[g]? = w.heap[g]?) : TS base w' b k M ab nb cb al nl cl ae ne ce s :=
  ⟨h.kl, h.ml, h.box.kept (hw b h.lo), h.lo, h.eb, h.el, h.ee, h.ob.keptAt (fun g hg => hw g (h.ob.lt g hg).1), h.ol.keptAt (fun g hg => hw g (h.ol.lt g hg).1), h.oe.keptAt (fun g hg => hw g (h.oe.lt g hg).1), h.nebe⟩
def LSt (base : Nat) (W : World) (b : Nat) (k : List UInt8) (M : List Nat) (s : S) (T : List UInt8) (g : Nat) (v : Value) (wr : World) : Prop :=
  ∃ n : Nat, n ≤ T.length ∧ T.length - n ≤ g ∧ v = .int .i64 (n : Int) ∧ Hid (TX base wr b k M (runS (KK k M) s (T.take n))) ∧ Hid (room (runS (KK k M) s (T.take n)) n) ∧ Hid (Below base W wr)

set_option maxHeartbeats 16000000 in
set_option maxRecDepth 100000 in
theorem Type_ok (k : List UInt8) (hk : k.length = 38) (M : List Nat) (hM : H.okW M) (B T : List UInt8) (q : Bool) (w : World) (hr : ref B.length k T.length = 0) (hB : B.length < 1024) (hT : T.length ≤ 4096) :
    Calls Tryd.prog 9 #[EV (bs B) q, K.KV k, H.MV M, .string (bs T)] w fun e w' => Typ w (runS (KK k M) ⟨B, q, [], []⟩ T, 0) e w' := by
  have HF := Hid.mk' (refusal_any (bs B) q k hk (bs T))
  have HS := Hid.mk' (K.sizeKV k hk)
  have HSM := Hid.mk' (H.sizeMV hM)
  have HSE : Hid ((Tryd.prog.info? 23).map (·.size) = some (edCells (bs B) q).length) := sizeE
  have HZ := Hid.mk' zeroE
  rw [bs_size, bs_size, hr] at HF
  have HBD := Hid.mk' (fun (cb nb : Nat) (ab : Option Addr) (W : World) => build_run k M hk hM.1 ab nb cb q W)
  have HTK : Hid (∀ base W b s c n, n ≤ 4096 → TX base W b k M s → room s n → Calls Tryd.prog 28 #[.pointer (some ⟨b, 0, none⟩), .int .u8 ((c : UInt8).toNat : Int)] W fun e w' => Took base W b k M (stepS (KK k M) s c) e w') := fun base W b s c n hn h hroom => take_any h hM (by have := hroom.2.1; omega) hroom.1 (by have := hroom.2.2; omega) c
  have HE0 : Hid ((edCells (bs B) q)[0]? = some (.string (bs B)) ∧ (edCells (bs B) q)[1]? = some (.bool q)) := ⟨rfl, rfl⟩
  have HCV := Hid.mk' (fun W : World => Lib.run_convert_string_bytes (P := Tryd.prog) W 9 48 5 (bs B) Tryd.underlying9 Tryd.underlying48 Tryd.underlying5)
  have HOB := Hid.mk' (fun W : World => own_bytes W B (by omega))
  have HBB := Hid.mk' (fun W : World => below_bytes W 5 (bs B))
  have HBS := Hid.mk' (fun W : World => bytesWorld_size W 5 (bs B))
  have hML := hM.1
  have HRS := Hid.mk' (fun n (h : n < T.length) => runS_snoc (KK k M) ⟨B, q, [], []⟩ (T.take n) (T[n]'h))
  have HTT : Hid (∀ n (h : n < T.length), T.take n ++ [T[n]'h] = T.take (n + 1)) := fun n h => (List.take_succ_eq_append_getElem h).symm
  have HTL : Hid (T.take T.length = T) := List.take_length
  have hsz := bs_size T
  have hsB := bs_size B
  rw [hsB] at HCV
  unfold EV K.KV H.MV at *
  generalize hE : edCells (bs B) q = E at *
  generalize hZE : edCells ⟨#[]⟩ false = ZE at *
  have HZ2 : Hid (∃ z0 z1, ZE = [z0, z1]) := ⟨_, _, hZE.symm⟩
  clear hE hZE
  have HGT : Hid (∀ n (h : n < T.length) (h2 : n < (bs T).size), (bs T)[n]'h2 = T[n]'h) := fun n h h2 => bs_get T n h h2
  generalize bs T = TT at *
  generalize bs B = BB at *
  go_enter Tryd.func9, Tryd.ntmps9
  go_wp2_with (refine wpList_box E 23 rfl _ rfl rfl ?_)
  intro w1 m1
  go_wp2_with (refine wpList_box (bcells k) 26 rfl _ rfl rfl ?_)
  intro w2 m2
  go_wp2_with (refine wpList_box (H.ucells M) 30 rfl _ rfl rfl ?_)
  intro w3 m3
  go_wp2_with (refine wpList_alloc ZE 23 HZ.out rfl rfl ?_)
  intro w4 m4
  have b1 := Hid.mk' (m4.keep (m3.keep (m2.keep m1.box)))
  have b2 := Hid.mk' (m4.keep (m3.keep m2.box))
  have b4 := Hid.mk' m4.box
  have b3 := Hid.mk' (m4.keep m3.box)
  have z1 := m1.lt
  have z2 := m2.lt
  have z3 := m3.lt
  have z4 := m4.lt
  have HB4 := Hid.mk' (m4.below w.heap.size w (by omega) (m3.below _ _ (by omega) (m2.below _ _ (by omega) (m1.below _ _ (Nat.le_refl _) (Below.refl _ w)))))
  clear m1 m2 m3 m4
  go_wp2_with (first | (with_reducible refine wpList_load_box 23 23 E w.heap.size _ Tryd.underlying23 rfl HSE.out b1.out rfl _ rfl rfl ?_) | (with_reducible refine wpList_load_box 26 26 (bcells k) w1.heap.size _ Tryd.underlying26 rfl HS.out b2.out rfl _ rfl rfl ?_))
  refine (HF.out _).mono ?_
  rintro e w5 ⟨rfl, h5⟩
  have b1 := Hid.mk' (b1.out.later h5)
  have b2 := Hid.mk' (b2.out.later h5)
  have b3 := Hid.mk' (b3.out.later h5)
  have HB5 := Hid.mk' (HB4.out.trans (Below.mono h5 (by omega)))
  have z5 := h5.size
  have HB45 := Hid.mk' h5
  clear h5
  have e0 := b1.out.cell HE0.out.1
  have e1 := b1.out.cell HE0.out.2
  have hcv := HCV.out w5
  have HO5 := Hid.mk' (HOB.out w5)
  have HB6 := Hid.mk' (HBB.out w5)
  have z6 := HBS.out w5
  generalize bytesWorld w5 5 BB = w6 at *
  generalize grownCap w5 B.length 0 5 = cp at *
  have z6' : w5.heap.size < w6.heap.size := by omega
  clear z6
  have e1' : w6.cell? ⟨w.heap.size, 1, none⟩ = some (.bool q) := (HB6.out.cell (p := ⟨w.heap.size, 1, none⟩) (by show w.heap.size < w5.heap.size; omega)).trans e1
  go_wp2_with (first | (with_reducible refine wpList_load_box 26 26 (bcells k) w1.heap.size _ Tryd.underlying26 rfl HS.out b2.out rfl _ rfl rfl ?_) | (with_reducible refine wpList_load_box 30 30 (H.ucells M) w2.heap.size _ Tryd.underlying30 rfl HSM.out b3.out rfl _ rfl rfl ?_) | (refine wpList_buildT (tcells k M (.slice (some ⟨w5.heap.size, 0, none⟩) B.length cp) q (.slice none 0 0) (.slice none 0 0)) #[(0, .agg (bcells k).toArray), (1, .agg (H.ucells M).toArray), (2, .slice (some ⟨w5.heap.size, 0, none⟩) B.length cp), (3, .bool q)] _ (HBD.out cp B.length (some ⟨w5.heap.size, 0, none⟩) w6) rfl rfl (by simp [Act.eval]) ?_) | (refine wpList_alloc noT 64 zeroTy rfl rfl ?_))
  intro w7 m7
  have b7 := Hid.mk' m7.box
  go_wp2_with (refine wpList_store_box 64 64 noT (tcells k M (.slice (some ⟨w5.heap.size, 0, none⟩) B.length cp) q (.slice none 0 0) (.slice none 0 0)) w6.heap.size (by rw [tcells_length hk hML]; exact sizeTy) (tcells_one _ _ _ _ rfl rfl rfl) b7.out (by rw [tcells_length hk hML]; rfl) rfl _ _ rfl rfl rfl ?_)
  intro w8 s8
  have HB7 : Hid (Below w4.heap.size w4 w7) := m7.below w4.heap.size w4 (by omega) (Below.trans (HB45.out) (Below.mono HB6.out z5))
  have HB8 := Hid.mk' (s8.below w4.heap.size w4 (by omega) HB7.out)
  have HT8 : Hid (TS w4.heap.size w8 w6.heap.size k M (some ⟨w5.heap.size, 0, none⟩) B.length cp none 0 0 none 0 0 ⟨B, q, [], []⟩) := by
    refine ⟨hk, hML, s8.box, by omega, rfl, rfl, rfl, ?_, OwnR.nil _ _ _ _, OwnR.nil _ _ _ _, fun g _ => by simp [blk]⟩
    have h1 : OwnR w6 w4.heap.size 5 1 (.slice (some ⟨w5.heap.size, 0, none⟩) B.length cp) B.length (bcells B) := own_base HO5.out z5
    exact h1.keptAt fun g hg => by
      have hg2 : g = w5.heap.size := by simpa [Value.ownBlock] using hg.symm
      subst hg2
      exact (s8.other _ (by omega)).trans (m7.other _ z6')
  have hb8 : w6.heap.size < w8.heap.size := s8.box.lt
  have HST : Hid (LSt w4.heap.size w4 w6.heap.size k M ⟨B, q, [], []⟩ T T.length (.int .i64 0) w8) :=
    ⟨0, Nat.zero_le _, by omega, rfl, by rw [List.take_zero, runS_nil]; exact ⟨_, _, _, _, _, _, _, _, _, HT8.out⟩, by rw [List.take_zero, runS_nil]; exact ⟨hB, Nat.le_refl _, Nat.le_refl _⟩, HB8.out⟩
  clear m7 b7 s8 HB7 HB8 HT8 HO5 HB6 hcv e0 e1 e1' HBD HCV HOB HBB HBS b1 b2 b3 HB5 HF HS HSM HSE HE0 hr
  go_wp2_with fail
  go_loopg [33] T.length (fun g s33 wr => LSt w4.heap.size w4 w6.heap.size k M ⟨B, q, [], []⟩ T g s33 wr)
  case atStart => exact HST.out
  case round =>
    obtain ⟨n, hn, hg, rfl, HT, HR, HB⟩ := hrel
    have HG := Hid.mk' hg
    clear hg HST
    by_cases hlt : n < T.length
    · have hgt := HGT.out n hlt (by rw [hsz]; exact hlt)
      have he : stepS (KK k M) (runS (KK k M) ⟨B, q, [], []⟩ (T.take n)) (T[n]'hlt) = runS (KK k M) ⟨B, q, [], []⟩ (T.take (n + 1)) := by rw [← HTT.out n hlt, HRS.out n hlt]
      have HE1 := Hid.mk' he
      have HC := Hid.mk' (HTK.out w4.heap.size wr w6.heap.size _ (T[n]'hlt) n (by omega) HT.out HR.out)
      have HRM : Hid (room (stepS (KK k M) (runS (KK k M) ⟨B, q, [], []⟩ (T.take n)) (T[n]'hlt)) (n + 1)) := stepS_room _ _ _ _ HR.out
      rw [he] at HC HRM
      clear he HE1 HTK HRS HTT HGT HT HR
      generalize T[n]'hlt = c at *
      go_wp2_with fail
      refine HC.out.mono ?_
      rintro e w10 ⟨rfl, hT10, hB10⟩
      have HT10 := Hid.mk' hT10
      have HB10 := Hid.mk' (HB.out.trans hB10)
      clear hT10 hB10 HC HB
      go_wp2
      go_roundg (T.length - (n + 1))
      case measure => have := HG.out; omega
      case rel => exact ⟨n + 1, by omega, Nat.le_refl _, by go_num, HT10, HRM, HB10⟩
    · obtain rfl : n = T.length := by omega
      rw [HTL.out] at HT HR
      obtain ⟨ab, nb, cb, al, nl, cl, ae, ne, ce, h⟩ := HT.out
      have c42 := h.c42
      have c43 := h.c43
      have c44 := h.c44
      have c45 := h.c45
      have hcv1 := h.drew.str
      have hcv2 := h.drew.strE
      have hcv3 := (h.moveB (w' := ((wr.setCell ⟨w3.heap.size, 0, none⟩ (.string (bs (runS (KK k M) ⟨B, q, [], []⟩ T).buf))).setCell ⟨w3.heap.size, 1, none⟩ (.bool (runS (KK k M) ⟨B, q, [], []⟩ T).q)).drew) (fun g hg => (setCell_other _ _ _ _ (by omega)).trans (setCell_other _ _ _ _ (by omega)))).strE
      obtain ⟨z0, z1, rfl⟩ := HZ2.out
      have bx := b4.out.below HB.out z4
      have d0 : wr.cell? ⟨w3.heap.size, 0, none⟩ = some z0 := bx.cell rfl
      have d1 : wr.cell? ⟨w3.heap.size, 1, none⟩ = some z1 := bx.cell rfl
      have f0 := bx.frozen 0
      have f1 := bx.frozen 1
      have HX := Hid.mk' bx
      have HH := Hid.mk' h
      have HFB := Hid.mk' (HB4.out.trans (Below.mono HB.out (by omega)))
      have hel := Hid.mk' h.el
      clear bx h HTK HRS HTT HGT HT HR HB HZ HTL
      generalize hsx : runS (KK k M) ⟨B, q, [], []⟩ T = sx at *
      have HSX := Hid.mk' hsx
      clear hsx
      generalize hx1 : bs sx.buf = x1 at *
      generalize hx2 : bs sx.echo = x2 at *
      go_wp2
      go_region
      all_goals
        go_wp2
        refine ret_ed rfl 23 [.string x1, .bool sx.q] w3.heap.size rfl (.slice al nl cl) (.string x2) (.int .i64 0) rfl rfl rfl rfl ((HX.out.setCell 0 (.string x1)).setCell 1 (.bool sx.q)).drew rfl ?_
        rw [HSX.out]
        refine ⟨al, cl, ?_, ?_, ?_⟩
        · unfold RT EV edCells
          dsimp only
          rw [← hel.out, hx1, hx2]
        · show OwnR _ _ _ _ _ sx.ls.length _
          rw [← hel.out]
          refine (own_base HH.out.ol (by omega)).keptAt fun g hg => ?_
          have hg2 := (HH.out.ol.lt g hg).1
          exact (setCell_other _ _ _ _ (by omega)).trans (setCell_other _ _ _ _ (by omega))
        · exact ((HFB.out.setCell (p := ⟨w3.heap.size, 0, none⟩) (by show w.heap.size ≤ w3.heap.size; omega) _).setCell (p := ⟨w3.heap.size, 1, none⟩) (by show w.heap.size ≤ w3.heap.size; omega) _).drew

/-- line.Type, whatever it is given -/
theorem Type_any (k : List UInt8) (hk : k.length = 38) (M : List Nat) (hM : H.okW M) (B T : List UInt8) (q : Bool) (w : World) :
    Calls Tryd.prog 9 #[EV (bs B) q, K.KV k, H.MV M, .string (bs T)] w fun e w' => Typ w (typeT k M B q T) e w' := by
  unfold typeT
  by_cases hr : ref B.length k T.length = 0
  · rw [if_pos hr]
    have hr2 := hr
    unfold ref at hr2
    split at hr2
    · cases hr2
    rename_i hB
    split at hr2
    · split at hr2
      · cases hr2
      · rename_i hT
        exact Type_ok k hk M hM B T q w hr (by omega) (by omega)
    · rename_i hc
      exact absurd hr2 hc
  · rw [if_neg hr]
    exact Type_bad k hk M B T q w hr
end Go.Proofs.YtomgnnbcaficaaaDoor.L
