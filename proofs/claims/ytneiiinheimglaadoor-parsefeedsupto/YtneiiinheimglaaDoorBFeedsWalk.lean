/-
  The walk of farlaw.ParseFeeds: it returns true; conditions: at most 1048576 runes, and bytes; the variable internal/bytealg.MaxLen holds an int.
-/
import Derived.Test.YtneiiinheimglaaDoorBParsed
import Derived.Test.YtneiiinheimglaaDoorBSame
namespace Go.Proofs.YtneiiinheimglaaDoor.B
open Go.RowKit Go.Lib Go.Proofs.YtneiiinheimglaaDoor Go.Proofs.YtneiiinheimglaaDoor.W Go.Proofs.YtneiiinheimglaaDoor.Q Go.Proofs.YtneiiinheimglaaDoor.C Go.Proofs.YtneiiinheimglaaDoor.Z

theorem small_args {p : Ps} (hp : right p) (l : List Int) : ∀ y ∈ (run p l).2, y.args.length ≤ 17592186044416 := by
  intro y hy
  have h := run_shape l hp y hy
  have h32 : ∀ s, (readT s).1.length ≤ 32 := fun s => by
    unfold readT
    split
    · exact rd_len s
    · exact Nat.zero_le _
  rcases h with h | ⟨h, _⟩ | ⟨h, _⟩ | ⟨h, _⟩ | ⟨h, _, _, _, _, s, _, _, e⟩ | ⟨h, _⟩
  · rw [h]; exact Nat.zero_le _
  · rw [h]; exact Nat.zero_le _
  · rw [h]; exact Nat.zero_le _
  · rw [h]; exact Nat.zero_le _
  · rw [e]; have := h32 s; omega
  · rw [h]; exact Nat.zero_le _

set_option maxHeartbeats 16000000 in
set_option maxRecDepth 100000 in
theorem Feeds_bad (st mk : Int) (im ar tx : List UInt8) (v : Value) (l : List Int) (w : World) (hv : RdI w v l) (h1 : im.length + ar.length + tx.length ≤ 1048576) (hb : okP st mk im ar tx = false) :
    Calls Tryd.prog 3 #[.agg #[.int .i64 st, .int .i64 mk, .string (bs im), .string (bs ar), .string (bs tx)], v] w fun e w' => e = .returned (.bool true) ∧ Below w.heap.size w w' := by
  have hl : im.length ≤ 1099511627776 ∧ ar.length ≤ 1099511627776 ∧ tx.length ≤ 1099511627776 := by omega
  have HF := Hid.mk' (fun W => Feed_bad st mk im ar tx hb v W hl)
  have HR := Hid.mk' (fun W => ParserRight_any st mk im ar tx W (by omega))
  have HC := Hid.mk' (fun W => Check_any st mk im ar tx W hl)
  rw [hb, if_neg (by decide)] at HR HC
  clear hb hl h1
  generalize bs im = S1 at *
  generalize bs ar = S2 at *
  generalize bs tx = S3 at *
  have t1 := same_self S1
  have t2 := same_self S2
  have t3 := same_self S3
  have hA0 : Below w.heap.size w (w.alloc (.cells #[.int .i64 st, .int .i64 mk, .string S1, .string S2, .string S3] 23)) := (Below.refl _ _).alloc (Nat.le_refl _) _
  have X0 := Box.new w 23 [.int .i64 st, .int .i64 mk, .string S1, .string S2, .string S3]
  obtain ⟨a, cap, rfl, hc, hv⟩ := hv
  have c0 := X0.cell (j := 0) (v := .int .i64 st) rfl
  have c1 := X0.cell (j := 1) (v := .int .i64 mk) rfl
  have c2 := X0.cell (j := 2) (v := .string S1) rfl
  have c3 := X0.cell (j := 3) (v := .string S2) rfl
  have c4 := X0.cell (j := 4) (v := .string S3) rfl
  have HX0 := Hid.mk' (And.intro X0 hA0)
  clear X0 hA0 hv hc
  go_enter Tryd.func3, Tryd.ntmps3
  go_wp2_with fail
  refine (HF.out _).mono ?_
  rintro e w2 ⟨rfl, hb2⟩
  have X2 := (HX0.out.1.later hb2).alloc (.cells #[.int .i64 st, .int .i64 mk, .string S1, .string S2, .string S3] 23)
  have Y2 := Box.new w2 23 [.int .i64 st, .int .i64 mk, .string S1, .string S2, .string S3]
  have B2 := (HX0.out.2.trans (Below.mono hb2 HX0.out.2.size))
  have B2' := B2.alloc B2.size (.cells #[.int .i64 st, .int .i64 mk, .string S1, .string S2, .string S3] 23)
  have d0 := X2.cell (j := 0) (v := .int .i64 st) rfl
  have d1 := X2.cell (j := 1) (v := .int .i64 mk) rfl
  have d2 := X2.cell (j := 2) (v := .string S1) rfl
  have d3 := X2.cell (j := 3) (v := .string S2) rfl
  have d4 := X2.cell (j := 4) (v := .string S3) rfl
  have HX2 := Hid.mk' (And.intro X2 (And.intro Y2 B2'))
  clear HF HX0 X2 Y2 B2 B2' hb2 c0 c1 c2 c3 c4
  go_wp2_with fail
  refine (HR.out _).mono ?_
  rintro e w3 ⟨rfl, hb3⟩
  have X3 := HX2.out.1.later hb3
  have HX3 := Hid.mk' (And.intro X3 (And.intro (HX2.out.2.1.later hb3) (HX2.out.2.2.trans (Below.mono hb3 HX2.out.2.2.size))))
  clear d0 d1 d2 d3 d4
  have d0 := X3.cell (j := 0) (v := .int .i64 st) rfl
  have d1 := X3.cell (j := 1) (v := .int .i64 mk) rfl
  have d2 := X3.cell (j := 2) (v := .string S1) rfl
  have d3 := X3.cell (j := 3) (v := .string S2) rfl
  have d4 := X3.cell (j := 4) (v := .string S3) rfl
  clear HX2 X3 hb3 HR
  go_wp2_with fail
  refine (HC.out _).mono ?_
  rintro e w4 ⟨rfl, hb4⟩
  have X4 := HX3.out.1.later hb4
  have Y4 := HX3.out.2.1.later hb4
  have HB4 := Hid.mk' (HX3.out.2.2.trans (Below.mono hb4 HX3.out.2.2.size))
  clear d0 d1 d2 d3 d4
  have d0 := X4.cell (j := 0) (v := .int .i64 st) rfl
  have d1 := X4.cell (j := 1) (v := .int .i64 mk) rfl
  have d2 := X4.cell (j := 2) (v := .string S1) rfl
  have d3 := X4.cell (j := 3) (v := .string S2) rfl
  have d4 := X4.cell (j := 4) (v := .string S3) rfl
  have c0 := Y4.cell (j := 0) (v := .int .i64 st) rfl
  have c1 := Y4.cell (j := 1) (v := .int .i64 mk) rfl
  have c2 := Y4.cell (j := 2) (v := .string S1) rfl
  have c3 := Y4.cell (j := 3) (v := .string S2) rfl
  have c4 := Y4.cell (j := 4) (v := .string S3) rfl
  clear HX3 X4 Y4 hb4 HC
  go_wp2
  go_ret
  exact ⟨rfl, HB4.out⟩
set_option maxHeartbeats 16000000 in
set_option maxRecDepth 100000 in
theorem Feeds_good (p : Ps) (hp : right p) (m : Int) (v : Value) (l : List Int) (w : World) (hv : RdI w v l) (hl : l.length ≤ 1048576) (hm : w.cell? ⟨2, 0, none⟩ = some (.int .i64 m)) :
    Calls Tryd.prog 3 #[.agg #[.int .i64 (p.st : Int), .int .i64 p.mark, .string (bs p.inter), .string (bs p.args), .string (bs p.text)], v] w fun e w' => e = .returned (.bool true) ∧ Below w.heap.size w w' := by
  have hil := hp.ilen
  have hal := hp.alen
  have htl := hp.tlen
  have hok := right_okP hp
  have HF := Hid.mk' (fun W (h : Below w.heap.size w W) => Feed_ok p hp v l W (hv.below h) (by omega))
  have HP := Hid.mk' (fun W (h : Below w.heap.size w W) => Parsed_any p hp m v l W (hv.below h) (by omega) ((h.cell (p := ⟨2, 0, none⟩) (World.block_lt_of_cell? _ _ hm)).trans hm))
  have HR := Hid.mk' (fun W => ParserRight_any (p.st : Int) p.mark p.inter p.args p.text W (by omega))
  have HC := Hid.mk' (fun W => Check_any (p.st : Int) p.mark p.inter p.args p.text W (by omega))
  rw [hok, if_pos rfl] at HR HC
  have HSM := Hid.mk' (small_args hp l)
  have hfew := run_few l p
  clear hok hil hal htl hm hp
  generalize run p l = Y at *
  obtain ⟨q, L⟩ := Y
  dsimp only at *
  unfold pcells at HF HP
  generalize bs p.inter = S1 at *
  generalize bs p.args = S2 at *
  generalize bs p.text = S3 at *
  generalize bs q.inter = Q1 at *
  generalize bs q.args = Q2 at *
  generalize bs q.text = Q3 at *
  have t1 := same_self Q1
  have t2 := same_self Q2
  have t3 := same_self Q3
  generalize hst : (p.st : Int) = st at *
  generalize p.mark = mk at *
  clear hst
  have hA0 : Below w.heap.size w (w.alloc (.cells #[.int .i64 st, .int .i64 mk, .string S1, .string S2, .string S3] 23)) := (Below.refl _ _).alloc (Nat.le_refl _) _
  have X0 := Box.new w 23 [.int .i64 st, .int .i64 mk, .string S1, .string S2, .string S3]
  obtain ⟨a, cap, rfl, hc, hv⟩ := hv
  have c0 := X0.cell (j := 0) (v := .int .i64 st) rfl
  have c1 := X0.cell (j := 1) (v := .int .i64 mk) rfl
  have c2 := X0.cell (j := 2) (v := .string S1) rfl
  have c3 := X0.cell (j := 3) (v := .string S2) rfl
  have c4 := X0.cell (j := 4) (v := .string S3) rfl
  have HX0 := Hid.mk' (And.intro X0 hA0)
  clear X0 hA0 hv hc
  go_enter Tryd.func3, Tryd.ntmps3
  go_wp2_with fail
  refine (HF.out _ HX0.out.2).mono ?_
  rintro e w2 ⟨vl, rfl, hr2, hb2⟩
  have X2 := (HX0.out.1.later hb2).alloc (.cells #[.int .i64 (q.st : Int), .int .i64 q.mark, .string Q1, .string Q2, .string Q3] 23)
  have Y2 := Box.new w2 23 [.int .i64 (q.st : Int), .int .i64 q.mark, .string Q1, .string Q2, .string Q3]
  have B2 := (HX0.out.2.trans (Below.mono hb2 HX0.out.2.size))
  have hA2 : Below w2.heap.size w2 (w2.alloc (.cells #[.int .i64 (q.st : Int), .int .i64 q.mark, .string Q1, .string Q2, .string Q3] 23)) := (Below.refl _ _).alloc (Nat.le_refl _) _
  have B2' := B2.alloc B2.size (.cells #[.int .i64 (q.st : Int), .int .i64 q.mark, .string Q1, .string Q2, .string Q3] 23)
  have d0 := X2.cell (j := 0) (v := .int .i64 st) rfl
  have d1 := X2.cell (j := 1) (v := .int .i64 mk) rfl
  have d2 := X2.cell (j := 2) (v := .string S1) rfl
  have d3 := X2.cell (j := 3) (v := .string S2) rfl
  have d4 := X2.cell (j := 4) (v := .string S3) rfl
  have HX2 := Hid.mk' (And.intro X2 (And.intro Y2 (And.intro B2' (hr2.below hA2))))
  clear HF HX0 X2 Y2 B2 B2' hb2 c0 c1 c2 c3 c4 hr2 hA2
  go_wp2_with fail
  refine (HR.out _).mono ?_
  rintro e w3 ⟨rfl, hb3⟩
  have X3 := HX2.out.1.later hb3
  have HX3 := Hid.mk' (And.intro X3 (And.intro (HX2.out.2.1.later hb3) (And.intro (HX2.out.2.2.1.trans (Below.mono hb3 HX2.out.2.2.1.size)) (HX2.out.2.2.2.below hb3))))
  clear d0 d1 d2 d3 d4
  have d0 := X3.cell (j := 0) (v := .int .i64 st) rfl
  have d1 := X3.cell (j := 1) (v := .int .i64 mk) rfl
  have d2 := X3.cell (j := 2) (v := .string S1) rfl
  have d3 := X3.cell (j := 3) (v := .string S2) rfl
  have d4 := X3.cell (j := 4) (v := .string S3) rfl
  clear HX2 X3 hb3 HR
  go_wp2_with fail
  refine (HC.out _).mono ?_
  rintro e w4 ⟨rfl, hb4⟩
  have X4 := HX3.out.1.later hb4
  have HX4 := Hid.mk' (And.intro (HX3.out.2.1.later hb4) (And.intro (HX3.out.2.2.1.trans (Below.mono hb4 HX3.out.2.2.1.size)) (HX3.out.2.2.2.below hb4)))
  clear d0 d1 d2 d3 d4
  have d0 := X4.cell (j := 0) (v := .int .i64 st) rfl
  have d1 := X4.cell (j := 1) (v := .int .i64 mk) rfl
  have d2 := X4.cell (j := 2) (v := .string S1) rfl
  have d3 := X4.cell (j := 3) (v := .string S2) rfl
  have d4 := X4.cell (j := 4) (v := .string S3) rfl
  clear HX3 X4 hb4 HC
  go_wp2_with fail
  refine (HP.out _ HX4.out.2.1).mono ?_
  rintro e w5 ⟨vm, rfl, hr5, hb5⟩
  have hA5 : Below w5.heap.size w5 (w5.alloc (.cells #[.int .i64 (q.st : Int), .int .i64 q.mark, .string Q1, .string Q2, .string Q3] 23)) := (Below.refl _ _).alloc (Nat.le_refl _) _
  have X5 := (HX4.out.1.later hb5).later hA5
  have Y5 := Box.new w5 23 [.int .i64 (q.st : Int), .int .i64 q.mark, .string Q1, .string Q2, .string Q3]
  have B5 := HX4.out.2.1.trans (Below.mono hb5 HX4.out.2.1.size)
  have HB5 := Hid.mk' (B5.trans (Below.mono hA5 B5.size))
  clear d0 d1 d2 d3 d4
  have d0 := X5.cell (j := 0) (v := .int .i64 (q.st : Int)) rfl
  have d1 := X5.cell (j := 1) (v := .int .i64 q.mark) rfl
  have d2 := X5.cell (j := 2) (v := .string Q1) rfl
  have d3 := X5.cell (j := 3) (v := .string Q2) rfl
  have d4 := X5.cell (j := 4) (v := .string Q3) rfl
  have c0 := Y5.cell (j := 0) (v := .int .i64 (q.st : Int)) rfl
  have c1 := Y5.cell (j := 1) (v := .int .i64 q.mark) rfl
  have c2 := Y5.cell (j := 2) (v := .string Q1) rfl
  have c3 := Y5.cell (j := 3) (v := .string Q2) rfl
  have c4 := Y5.cell (j := 4) (v := .string Q3) rfl
  have HS := Hid.mk' (SameActs_same L vl vm _ ((HX4.out.2.2.below hb5).below hA5).rd (hr5.below hA5).rd HSM.out (by omega))
  clear HX4 X5 Y5 B5 hb5 hA5 hr5 HP HSM hfew
  go_wp2_with fail
  refine HS.out.mono ?_
  rintro e w6 ⟨rfl, hb6⟩
  have HB6 := Hid.mk' (HB5.out.trans (Below.mono hb6 HB5.out.size))
  clear hb6 HS HB5
  go_wp2
  go_ret
  exact ⟨rfl, HB6.out⟩
theorem ParseFeeds_any (st mk : Int) (im ar tx : List UInt8) (v : Value) (l : List Int) (m : Int) (w : World) (hv : RdI w v l) (h1 : im.length + ar.length + tx.length ≤ 1048576) (hl : l.length ≤ 1048576) (hm : w.cell? ⟨2, 0, none⟩ = some (.int .i64 m)) :
    Calls Tryd.prog 3 #[.agg #[.int .i64 st, .int .i64 mk, .string (bs im), .string (bs ar), .string (bs tx)], v] w fun e w' => e = .returned (.bool true) ∧ Below w.heap.size w w' := by
  cases h : okP st mk im ar tx with
  | false => exact Feeds_bad st mk im ar tx v l w hv h1 h
  | true =>
    obtain ⟨n, rfl, hr⟩ := okP_right h
    exact Feeds_good ⟨n, mk, im, ar, tx⟩ hr m v l w hv hl hm
end Go.Proofs.YtneiiinheimglaaDoor.B
