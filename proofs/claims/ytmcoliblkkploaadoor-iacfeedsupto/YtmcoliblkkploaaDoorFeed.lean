/-
  Contract of iac.Feed: it answers the plain function's wire and tokens, in memory of its own; a wire that is not right is handed back with the error; conditions: at most 4194304 bytes, and 1000000000 in the wire's Buf.
-/
import Derived.Test.YtmcoliblkkploaaDoorRd4
namespace Go.Proofs.YtmcoliblkkploaaDoor
open Go.RowKit

theorem flush_words (r : RS) : r.flush.words = r.words := by unfold RS.flush; split <;> rfl
theorem putWord_sizes (r : RS) (c : UInt8) (hw : r.words.length ≤ 4096) : (r.putWord c).data = r.data ∧ (r.putWord c).toks = r.toks ∧ (r.putWord c).words.length ≤ 4096 := by
  unfold RS.putWord
  split
  · exact ⟨rfl, rfl, hw⟩
  · split
    · exact ⟨rfl, rfl, by simp⟩
    · exact ⟨rfl, rfl, by simp; omega⟩
theorem tell_sizes (r : RS) (t : Tk) : (r.tell t).data = [] ∧ (r.tell t).toks.length ≤ r.toks.length + 2 ∧ (r.tell t).words = [] := by
  refine ⟨rfl, ?_, rfl⟩
  have := flush_toks r
  simp [RS.tell]; omega

def Grows (r r1 : RS) : Prop := r1.data.length ≤ r.data.length + 1 ∧ r1.toks.length ≤ r.toks.length + 2 ∧ r1.words.length ≤ 4096
theorem Grows.tell (r : RS) (t : Tk) : Grows r (r.tell t) := by
  obtain ⟨h1, h2, h3⟩ := tell_sizes r t
  exact ⟨by rw [h1]; simp, h2, by rw [h3]; simp⟩
theorem Grows.put (r : RS) (c : UInt8) (hw : r.words.length ≤ 4096) : Grows r (r.putWord c) := by
  obtain ⟨h1, h2, h3⟩ := putWord_sizes r c hw
  exact ⟨by rw [h1]; omega, by rw [h2]; omega, h3⟩
theorem take_grows (r : RS) (c : UInt8) (hw : r.words.length ≤ 4096) : Grows r (r.take c) := by
  have same : ∀ r1 : RS, r1.data = r.data → r1.toks = r.toks → r1.words = r.words → Grows r r1 := fun r1 a b d => ⟨by rw [a]; omega, by rw [b]; omega, by rw [d]; exact hw⟩
  unfold RS.take
  split
  · unfold RS.takeByte
    split
    · exact same _ rfl rfl rfl
    · exact ⟨by simp, by simp, hw⟩
  split
  · unfold RS.takeCommand
    split
    · exact ⟨by simp, by simp, hw⟩
    split
    · exact same _ rfl rfl rfl
    split
    · exact same _ rfl rfl rfl
    split
    · exact Grows.tell _ _
    · exact Grows.tell _ _
  split
  · exact Grows.tell _ _
  split
  · exact same _ rfl rfl rfl
  split
  · unfold RS.takeWord
    split
    · exact same _ rfl rfl rfl
    · exact Grows.put _ _ hw
  split
  · unfold RS.takeWordsCommand
    split
    · obtain ⟨a, b, d⟩ := Grows.put { r with mode := 4 } c hw
      exact ⟨a, b, d⟩
    split
    · exact Grows.tell _ _
    split
    · exact Grows.tell _ _
    · exact Grows.tell _ _
  · exact same _ rfl rfl rfl

def RS.ofWr (x : Wr) : RS := ⟨x.mode, x.cmd, x.opt, x.over, x.buf, [], []⟩
def feedTo (x : Wr) (s : List UInt8) : RS := s.foldl RS.take (RS.ofWr x)
def feed (x : Wr) (s : List UInt8) : RS := (feedTo x s).flush

theorem feedTo_sizes (x : Wr) (hx : x.buf.length ≤ 4096) (s : List UInt8) : (feedTo x s).data.length ≤ s.length ∧ (feedTo x s).toks.length ≤ 2 * s.length ∧ (feedTo x s).words.length ≤ 4096 := by
  have gen : ∀ (s : List UInt8) (r : RS), r.words.length ≤ 4096 → (s.foldl RS.take r).data.length ≤ r.data.length + s.length ∧ (s.foldl RS.take r).toks.length ≤ r.toks.length + 2 * s.length ∧ (s.foldl RS.take r).words.length ≤ 4096 := by
    intro s
    induction s with
    | nil => intro r hr; exact ⟨by simp, by simp, hr⟩
    | cons c s ih =>
      intro r hr
      obtain ⟨a, b, d⟩ := take_grows r c hr
      obtain ⟨a', b', d'⟩ := ih (r.take c) d
      simp only [List.foldl_cons, List.length_cons]
      exact ⟨by omega, by omega, d'⟩
  have := gen s (RS.ofWr x) hx
  simpa [feedTo, RS.ofWr] using this

theorem feedTo_snoc (x : Wr) (s : List UInt8) (k : Nat) (hk : k < s.length) : feedTo x (s.take (k + 1)) = (feedTo x (s.take k)).take s[k] := by
  unfold feedTo
  rw [List.take_succ_eq_append_getElem hk, List.foldl_append]
  rfl

theorem OwnR.mono {w : World} {base base1 : Nat} {e : TypeId} {size : Nat} {v : Value} {n : Nat} {xs : List Value} (h : OwnR w base e size v n xs) (hb : base1 ≤ base) : OwnR w base1 e size v n xs := by
  refine ⟨h.1, ?_⟩
  rcases h.2 with hn | ⟨g, cap, cur, fz, hv, hb', rest⟩
  · exact .inl hn
  · exact .inr ⟨g, cap, cur, fz, hv, by omega, rest⟩

theorem Rd.drew {base : Nat} {w : World} {b : Nat} {r : RS} {vw vd vt : Value} (h : Rd base w b r vw vd vt) : Rd base w.drew b r vw vd vt := ⟨h.blk, h.lo, h.ow, h.od, h.ot, h.ne⟩

theorem ok_buf (x : Wr) (h : x.ok = true) : x.buf.length ≤ 4096 := by
  unfold Wr.ok at h
  split at h
  · simp [Wr.eq] at h; simp [h]
  split at h
  · simp [Wr.eq] at h; simp [h]
  split at h
  · simp only [Bool.and_eq_true] at h
    have := h.2.2
    unfold areWords at this
    split at this
    · have e : x.buf = [] := by simpa using this
      simp [e]
    · simpa using this
  · cases h

set_option maxHeartbeats 800000 in
theorem Feed_bad (x : Wr) (s : List UInt8) (w : World) (hx : x.ok = false) (hb : x.buf.length ≤ 1000000000) :
    Calls Tryd.prog 8 #[x.val, .string ⟨s.toArray⟩] w fun e w' => e = .returned (.tuple #[x.val, .slice none 0 0, .int .i64 4]) ∧ Below w.heap.size w w' := by
  have H := fun W => Check_any x W hb
  rw [hx] at H
  have HW := Hid.mk' H
  clear H hx hb
  obtain ⟨mode, cmd, opt, buf, over⟩ := x
  simp only [Wr.val] at *
  go_enter Tryd.func8, Tryd.ntmps8
  go_wp2_with fail
  refine (HW.out _).mono ?_
  rintro e w1 ⟨rfl, hb1⟩
  have hsz := hb1.size
  simp only [World.size_alloc] at hsz
  have hb1' := hb1
  simp only [World.size_alloc] at hb1'
  have d0 : ∀ j, w1.cell? ⟨w.heap.size, j, none⟩ = (#[.int .i64 mode, .int .i64 cmd, .int .i64 opt, .string ⟨buf.toArray⟩, .bool over] : Array Value)[j]? := fun j => (hb1'.cell (p := ⟨w.heap.size, j, none⟩) (by simp; omega)).trans ((World.cell?_alloc_past _ _ _ (by simp)).trans (World.cell?_alloc_at _ _ _ _ rfl))
  have d1 : ∀ j, w1.cell? ⟨w.heap.size + 1, j, none⟩ = (#[.int .i64 0, .int .i64 0, .int .i64 0, .string ⟨#[]⟩, .bool false] : Array Value)[j]? := fun j => (hb1'.cell (p := ⟨w.heap.size + 1, j, none⟩) (by simp)).trans (World.cell?_alloc_at _ _ _ _ (by simp))
  have f1 : ∀ j, w1.frozen? ⟨w.heap.size + 1, j, none⟩ = false := fun j => (hb1'.frozen (p := ⟨w.heap.size + 1, j, none⟩) (by simp)).trans (World.frozen?_alloc_at _ _ _ _ (by simp))
  have HB : Hid (Below w.heap.size w w1) := (((Below.refl w.heap.size w).alloc (Nat.le_refl _) _).alloc (by simp) _).trans (hb1.mono (by simp; omega))
  clear hb1 hb1'
  go_wp2
  have HL := HB.out
  refine bodyPost_ret (v := .tuple #[.agg #[.int .i64 mode, .int .i64 cmd, .int .i64 opt, .string ⟨buf.toArray⟩, .bool over], .slice none 0 0, .int .i64 4]) (by simp [results, Tryd.results8, go_sem, d1]) rfl ⟨rfl, ?_⟩
  exact ((((HL.setCell (by simp) _).setCell (by simp) _).setCell (by simp) _).setCell (by simp) _).setCell (by simp) _

set_option maxHeartbeats 4000000 in
theorem Feed_ok (x : Wr) (s : List UInt8) (w : World) (hx : x.ok = true) (hs : s.length ≤ 4194304) :
    Calls Tryd.prog 8 #[x.val, .string ⟨s.toArray⟩] w fun e w' => ∃ vt, e = .returned (.tuple #[(feed x s).wire.val, vt, .int .i64 0]) ∧ OwnR w' w.heap.size 34 4 vt (feed x s).toks.length (tsCells (feed x s).toks) ∧ Below w.heap.size w w' := by
  have hbuf := ok_buf x hx
  have H := fun W => Check_any x W (by omega)
  rw [hx] at H
  have HW := Hid.mk' H
  have HS := Hid.mk' (feedTo_sizes x hbuf)
  have HN := Hid.mk' (feedTo_snoc x s)
  have HF : Hid (∀ k, k ≤ s.length → (feedTo x (s.take k)).fits) := by
    intro k hk
    obtain ⟨a, b, d⟩ := feedTo_sizes x hbuf (s.take k)
    simp only [List.length_take] at a b
    exact ⟨by omega, by omega, d⟩
  have H0 : Hid (feedTo x (s.take 0) = RS.ofWr x) := rfl
  have HE : Hid (feed x s = (feedTo x (s.take s.length)).flush) := by rw [List.take_length]; rfl
  clear H hx
  generalize hfd : feed x s = fd at *
  clear hfd
  generalize hft : feedTo x = ft at *
  clear hft
  obtain ⟨mode, cmd, opt, buf, over⟩ := x
  simp only [Wr.val] at *
  go_enter Tryd.func8, Tryd.ntmps8
  go_wp2_with fail
  refine (HW.out _).mono ?_
  rintro e w1 ⟨rfl, hb1⟩
  have hsz := hb1.size
  simp only [World.size_alloc] at hsz
  have hb1' := hb1
  simp only [World.size_alloc] at hb1'
  have d0 : ∀ j, w1.cell? ⟨w.heap.size, j, none⟩ = (#[.int .i64 mode, .int .i64 cmd, .int .i64 opt, .string ⟨buf.toArray⟩, .bool over] : Array Value)[j]? := fun j => (hb1'.cell (p := ⟨w.heap.size, j, none⟩) (by simp; omega)).trans ((World.cell?_alloc_past _ _ _ (by simp)).trans (World.cell?_alloc_at _ _ _ _ rfl))
  have d1 : ∀ j, w1.cell? ⟨w.heap.size + 1, j, none⟩ = (#[.int .i64 0, .int .i64 0, .int .i64 0, .string ⟨#[]⟩, .bool false] : Array Value)[j]? := fun j => (hb1'.cell (p := ⟨w.heap.size + 1, j, none⟩) (by simp)).trans (World.cell?_alloc_at _ _ _ _ (by simp))
  have f1 : ∀ j, w1.frozen? ⟨w.heap.size + 1, j, none⟩ = false := fun j => (hb1'.frozen (p := ⟨w.heap.size + 1, j, none⟩) (by simp)).trans (World.frozen?_alloc_at _ _ _ _ (by simp))
  have HB : Hid (Below w.heap.size w w1) := (((Below.refl w.heap.size w).alloc (Nat.le_refl _) _).alloc (by simp) _).trans (hb1.mono (by simp; omega))
  clear hb1 hb1'
  go_wp2_with fail
  refine (newReader_any w1 mode cmd opt buf over hbuf).mono ?_
  rintro e w2 ⟨b, rfl, hR, hb2⟩
  have HR : Hid (RdE w1.heap.size w2 b (ft (s.take 0))) := by rw [H0.out]; exact hR
  have HB2 := Hid.mk' hb2
  clear hR hb2 HW H0
  go_wp2_with fail
  go_loopw [20] (fun i wr => ∃ k : Nat, k ≤ s.length ∧ i = .int .i64 k ∧ RdE w1.heap.size wr b (ft (s.take k)) ∧ Below w1.heap.size w1 wr) (fun i _ => s.length - (intOf i).toNat)
  case atStart => exact ⟨0, Nat.zero_le _, rfl, HR.out, HB2.out⟩
  case round =>
    obtain ⟨k, hk, rfl, ⟨vw, vd, vt, hRk⟩, hbk⟩ := hrel
    by_cases hlt : k < s.length
    · have HRk := Hid.mk' hRk
      have HBk := Hid.mk' hbk
      clear hRk hbk
      go_wp2_with fail
      refine (take_any _ _ _ _ _ _ _ HRk.out (HF.out k hk) _).mono ?_
      rintro e w' ⟨rfl, h1, h2⟩
      go_wp2
      go_roundw
      case rel => exact ⟨k + 1, by omega, by go_num, by rw [HN.out k hlt]; exact h1, HBk.out.trans h2⟩
      case measure => simp [intOf]; omega
    · obtain rfl : k = s.length := by omega
      have HRk := Hid.mk' hRk
      have HBk := Hid.mk' hbk
      clear hRk hbk hlt hk
      go_wp2_with fail
      refine (endData_any _ _ _ _ _ _ _ HRk.out (HF.out _ (Nat.le_refl _))).mono ?_
      rintro e w3 ⟨rfl, hE, h2, _⟩
      rw [← HE.out] at hE
      obtain ⟨vw1, vd1, vt1, h3⟩ := hE
      have HL : Hid (Below w1.heap.size w1 w3) := HBk.out.trans h2
      have c7 := h3.c7
      have hblt := h3.lt
      have hlo := h3.lo
      have hs3 := HL.out.size
      have H3 := Hid.mk' h3.drew
      have d1' : ∀ j, w3.cell? ⟨w.heap.size + 1, j, none⟩ = (#[.int .i64 0, .int .i64 0, .int .i64 0, .string ⟨#[]⟩, .bool false] : Array Value)[j]? := fun j => (HL.out.cell (p := ⟨w.heap.size + 1, j, none⟩) (by simp; omega)).trans (d1 j)
      have f1' : ∀ j, w3.frozen? ⟨w.heap.size + 1, j, none⟩ = false := fun j => (HL.out.frozen (p := ⟨w.heap.size + 1, j, none⟩) (by simp; omega)).trans (f1 j)
      have HOt := Hid.mk' h3.ot
      clear h2 HRk HBk h3 d0 d1 f1
      obtain ⟨md, cm, op, ov, wds, dts, tks⟩ := fd
      go_wp2_with fail
      go_region_with (go_at_call 27; refine (wire_any _ _ b _ vw1 vd1 vt1 H3.out).mono ?_; simp only [RS.wire, Wr.val]; rintro e w4 ⟨rfl, hb4⟩; have k7 : w4.cell? ⟨b, 7, none⟩ = some vt1 := (hb4.cell (p := ⟨b, 7, none⟩) hblt).trans c7; have d4 : ∀ j, w4.cell? ⟨w.heap.size + 1, j, none⟩ = (#[.int .i64 0, .int .i64 0, .int .i64 0, .string ⟨#[]⟩, .bool false] : Array Value)[j]? := fun j => (hb4.cell (p := ⟨w.heap.size + 1, j, none⟩) (by simp; omega)).trans (d1' j); have f4 : ∀ j, w4.frozen? ⟨w.heap.size + 1, j, none⟩ = false := fun j => (hb4.frozen (p := ⟨w.heap.size + 1, j, none⟩) (by simp; omega)).trans (f1' j))
      all_goals
        go_wp2
        have HQ := HL.out
        refine bodyPost_ret (v := .tuple #[.agg #[.int .i64 md, .int .i64 cm, .int .i64 op, .string ⟨wds.toArray⟩, .bool ov], vt1, .int .i64 0]) (by simp [results, Tryd.results8, go_sem, d4]) rfl ?_
        refine ⟨vt1, rfl, ?_, ?_⟩
        · refine (HOt.out.mono (by omega)).keptAt fun k hk => ?_
          have hk1 := HOt.out.lt k hk
          rw [set_other _ _ _ _ (by omega), set_other _ _ _ _ (by omega), set_other _ _ _ _ (by omega), set_other _ _ _ _ (by omega), set_other _ _ _ _ (by omega)]
          exact hb4.block k hk1.2
        · have h5 := HB.out.trans ((HQ.mono (B' := w.heap.size) (by omega)).trans ((Below.refl _ w3).drew.trans (hb4.mono (by simp; omega))))
          exact ((((h5.setCell (by simp) _).setCell (by simp) _).setCell (by simp) _).setCell (by simp) _).setCell (by simp) _
end Go.Proofs.YtmcoliblkkploaaDoor
