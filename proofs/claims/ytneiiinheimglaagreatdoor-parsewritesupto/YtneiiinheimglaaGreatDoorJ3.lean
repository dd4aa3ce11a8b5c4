/-
  Contracts of the small functions of package parse's reader: tell, end, ignore, putInter, putArgs, the closure that abandons; condition: at most 2^40 acts.
  Contracts of package parse's reader: end, ignore, putInter, putArgs, the closure that abandons; condition: at most 2^40 acts.
  Contracts of package parse's tests of a rune, and of strings.ContainsRune at a sign below 128; no condition.
  Contracts of utf.toRune and utf.Encode at a slice of ints; condition: at most 1073741824 numbers.
  Contracts of package parse's reader: putText, takeText, takeTextEsc, take; condition: at most 2^40 - 1 acts.
  Contracts of parse.Check and what it calls; conditions: texts of at most 2^40 bytes.
  Which texts are UTF-8, as plain functions: what utf8.ValidString's plain function says of runes that are written, and of those that are read; no program, no condition.
  Contracts of utf8.ValidRune, and of package parse's tests of what may be written: isPrinted, isActing, isEscEnd; condition: at most 2^40 bytes.
-/
import Derived.Test.YtneiiinheimglaaGreatDoorBMem
import Derived.Deep.RegionLaw
import Derived.BigRegion
import Derived.Test.YtneiiinheimglaaGreatDoorBShelf
import Derived.Test.YtneiiinheimglaaGreatDoorJ1
import Derived.Lib.IndexLaws
import Derived.BigQuiet
import Derived.Test.YtneiiinheimglaaGreatDoorJ2
import Derived.Test.YtneiiinheimglaaGreatDoorJ18
import Derived.Laws.BytesString
import Derived.OwnWalk
import Derived.Lib.ValidLaws
namespace Go.Proofs.YtneiiinheimglaaGreatDoor.B
open Go.RowKit Go.Lib Go.Proofs.YtneiiinheimglaaGreatDoor Go.Proofs.YtneiiinheimglaaGreatDoor.W Go.Proofs.YtneiiinheimglaaGreatDoor.Q Go.Proofs.YtneiiinheimglaaGreatDoor.C Go.Proofs.YtneiiinheimglaaGreatDoor.Z

theorem rcells_acts (p : Ps) (u v : Value) : (rcells p u).set 5 v = rcells p v := rfl
theorem sizeAct : (Tryz.prog.info? 24).map (·.size) = some 6 := by kernel_rfl
theorem sizePs : (Tryz.prog.info? 39).map (·.size) = some 5 := by kernel_rfl
theorem exec_loadA (ρ : Operand → Value) (x : Operand) (dst : Option Tmp) (t : TypeId) (pos : String) (af : Array Edge) (g : Option (Nat × Bool)) (w : World) (h : Lies w (ρ x) 6) :
    (execOp ρ { dst := dst, op := .load 24 x, type := t, pos := pos, after := af, guard := g }).run Tryz.prog w = .ok (.value (.agg (Q.rowAt w (ρ x) 6).toArray)) w :=
  exec_load 24 6 _ Tryz.underlying24 rfl sizeAct ρ x dst t pos af g w h
attribute [local go_sem ↓] exec_loadA


end Go.Proofs.YtneiiinheimglaaGreatDoor.B
namespace Go.Proofs.YtneiiinheimglaaGreatDoor.B
open Go.RowKit Go.Lib Go.Proofs.YtneiiinheimglaaGreatDoor Go.Proofs.YtneiiinheimglaaGreatDoor.W Go.Proofs.YtneiiinheimglaaGreatDoor.Q Go.Proofs.YtneiiinheimglaaGreatDoor.C Go.Proofs.YtneiiinheimglaaGreatDoor.Z

attribute [local go_sem ↓] exec_loadA
theorem enc_small {c : Int} (h0 : 0 ≤ c) (h1 : c < 128) : Utf8.encode c = bs [sg c] := by
  have hv : Utf8.valid c = true := by unfold Utf8.valid; simp; omega
  have hc : c.toNat < 128 := by omega
  unfold Utf8.encode
  simp only [hv, if_true, hc]
  rfl






end Go.Proofs.YtneiiinheimglaaGreatDoor.B
namespace Go.Proofs.YtneiiinheimglaaGreatDoor.B
open Go.RowKit Go.Lib Go.Proofs.YtneiiinheimglaaGreatDoor Go.Proofs.YtneiiinheimglaaGreatDoor.W Go.Proofs.YtneiiinheimglaaGreatDoor.Q Go.Proofs.YtneiiinheimglaaGreatDoor.C Go.Proofs.YtneiiinheimglaaGreatDoor.Z

set_option maxHeartbeats 1000000 in
theorem isControl_any (c : Int) (w : World) : Calls Tryz.prog 33 #[.int .i64 c] w fun e w' => e = .returned (.bool (decide (0 ≤ c ∧ c ≤ 31))) ∧ w' = w := by
  by_cases h1 : 0 ≤ c
  · by_cases h2 : c ≤ 31
    · rw [decide_eq_true (And.intro h1 h2)]
      have h3 : c < 32 := by omega
      go_enter Tryz.func33, Tryz.ntmps33
      go_wp2
      go_ret
      exact ⟨rfl, rfl⟩
    · rw [decide_eq_false (fun h => h2 h.2)]
      have h3 : ¬ c < 32 := by omega
      go_enter Tryz.func33, Tryz.ntmps33
      go_wp2
      go_ret
      exact ⟨rfl, rfl⟩
  · rw [decide_eq_false (fun h => h1 h.1)]
    go_enter Tryz.func33, Tryz.ntmps33
    go_wp2
    go_ret
    exact ⟨rfl, rfl⟩

set_option maxHeartbeats 1000000 in
theorem isMute_any (c : Int) (w : World) : Calls Tryz.prog 31 #[.int .i64 c] w fun e w' => e = .returned (.bool (decide (127 ≤ c ∧ c ≤ 159))) ∧ w' = w := by
  by_cases h1 : 127 ≤ c
  · by_cases h2 : c ≤ 159
    · rw [decide_eq_true (And.intro h1 h2)]
      have h3 : c < 160 := by omega
      go_enter Tryz.func31, Tryz.ntmps31
      go_wp2
      go_ret
      exact ⟨rfl, rfl⟩
    · rw [decide_eq_false (fun h => h2 h.2)]
      have h3 : ¬ c < 160 := by omega
      go_enter Tryz.func31, Tryz.ntmps31
      go_wp2
      go_ret
      exact ⟨rfl, rfl⟩
  · rw [decide_eq_false (fun h => h1 h.1)]
    go_enter Tryz.func31, Tryz.ntmps31
    go_wp2
    go_ret
    exact ⟨rfl, rfl⟩

set_option maxHeartbeats 1000000 in
theorem isMark_any (c : Int) (w : World) : Calls Tryz.prog 36 #[.int .i64 c] w fun e w' => e = .returned (.bool (decide (60 ≤ c ∧ c ≤ 63))) ∧ w' = w := by
  by_cases h1 : 60 ≤ c
  · by_cases h2 : c ≤ 63
    · rw [decide_eq_true (And.intro h1 h2)]
      have h3 : c < 64 := by omega
      go_enter Tryz.func36, Tryz.ntmps36
      go_wp2
      go_ret
      exact ⟨rfl, rfl⟩
    · rw [decide_eq_false (fun h => h2 h.2)]
      have h3 : ¬ c < 64 := by omega
      go_enter Tryz.func36, Tryz.ntmps36
      go_wp2
      go_ret
      exact ⟨rfl, rfl⟩
  · rw [decide_eq_false (fun h => h1 h.1)]
    go_enter Tryz.func36, Tryz.ntmps36
    go_wp2
    go_ret
    exact ⟨rfl, rfl⟩

set_option maxHeartbeats 1000000 in
theorem isInter_any (c : Int) (w : World) : Calls Tryz.prog 52 #[.int .i64 c] w fun e w' => e = .returned (.bool (decide (32 ≤ c ∧ c ≤ 47))) ∧ w' = w := by
  by_cases h1 : 32 ≤ c
  · by_cases h2 : c ≤ 47
    · rw [decide_eq_true (And.intro h1 h2)]
      have h3 : c < 48 := by omega
      go_enter Tryz.func52, Tryz.ntmps52
      go_wp2
      go_ret
      exact ⟨rfl, rfl⟩
    · rw [decide_eq_false (fun h => h2 h.2)]
      have h3 : ¬ c < 48 := by omega
      go_enter Tryz.func52, Tryz.ntmps52
      go_wp2
      go_ret
      exact ⟨rfl, rfl⟩
  · rw [decide_eq_false (fun h => h1 h.1)]
    go_enter Tryz.func52, Tryz.ntmps52
    go_wp2
    go_ret
    exact ⟨rfl, rfl⟩


theorem index_mem (l : List UInt8) (b : UInt8) : 0 ≤ indexByte l b ↔ b ∈ l := by
  induction l with
  | nil => simp [indexByte]
  | cons a l ih =>
    have hge := indexByte_ge l b
    rw [indexByte, List.mem_cons]
    by_cases h : a = b
    · subst h; simp
    · have h' : (a == b) = false := beq_false_of_ne h
      rw [h']
      simp only [Bool.false_eq_true, if_false]
      by_cases h2 : indexByte l b = -1
      · rw [h2] at ih
        rw [h2]
        simp
        exact ⟨fun e => h e.symm, fun e => absurd (ih.2 e) (by decide)⟩
      · have h3 : (indexByte l b == -1) = false := beq_false_of_ne h2
        rw [h3]
        simp only [Bool.false_eq_true, if_false]
        exact ⟨fun _ => .inr (ih.1 (by omega)), fun _ => by omega⟩

set_option maxHeartbeats 1000000 in
theorem ContainsRune_any (s : ByteArray) (r : Int) (w : World) (h0 : 0 ≤ r) (h1 : r < 128) : Calls Tryz.prog 35 #[.string s, .int .i32 r] w fun e w' => e = .returned (.bool (decide (sg r ∈ s.data.toList))) ∧ w' = w := by
  have HI := Hid.mk' (Tryz.strings_IndexRune_ascii s r w h0 h1)
  have hiff := index_mem s.data.toList (sg r)
  change Hid (Calls _ _ _ _ fun e w' => e = .returned (.int .i64 (indexByte s.data.toList (sg r))) ∧ w' = w) at HI
  generalize indexByte s.data.toList (sg r) = y at *
  have hd : decide (sg r ∈ s.data.toList) = decide (0 ≤ y) := by simp only [← hiff]
  rw [hd]
  clear hiff hd
  go_enter Tryz.func35, Tryz.ntmps35
  go_wp2_with fail
  refine HI.out.mono ?_
  rintro e w1 ⟨rfl, rfl⟩
  go_wp2
  go_ret
  exact ⟨rfl, rfl⟩
theorem sg_mem (l : List UInt8) {c : Int} (h0 : 0 ≤ c) (h1 : c < 128) : (sg c ∈ l) ↔ c ∈ l.map fun b => (b.toNat : Int) := by
  have e := sg_nat (c := c) h0 (by omega)
  rw [List.mem_map]
  constructor
  · exact fun h => ⟨_, h, e⟩
  · rintro ⟨b, hb, h⟩
    have : b = sg c := UInt8.toNat_inj.1 (by omega)
    rwa [← this]
theorem begin_mem {c : Int} (h0 : 0 ≤ c) (h1 : c < 128) : (sg c ∈ (⟨#[80, 88, 94, 95]⟩ : ByteArray).data.toList) ↔ c = 80 ∨ c = 88 ∨ c = 94 ∨ c = 95 := by
  rw [sg_mem _ h0 h1]
  show c ∈ [(80 : Int), 88, 94, 95] ↔ _
  simp
end Go.Proofs.YtneiiinheimglaaGreatDoor.B
namespace Go.Proofs.YtneiiinheimglaaGreatDoor.B.E
open Go.RowKit Go.Lib Go.Proofs.YtneiiinheimglaaGreatDoor Go.Proofs.YtneiiinheimglaaGreatDoor.U
theorem Hid.mk' {p : Prop} (h : p) : Hid p := h

theorem fold_push (l : List UInt8) : ∀ s : ByteArray, ((l.map fun b => ((b.toNat : Nat) : Int)).foldl (fun r n => r.push (UInt8.ofNat n.toNat)) s) = ⟨(s.data.toList ++ l).toArray⟩ := by
  induction l with
  | nil => intro s; simp
  | cons a l ih =>
    intro s
    rw [List.map_cons, List.foldl_cons, ih]
    congr 1
    simp [ByteArray.push]

theorem run_str {w : World} {base : Nat} {v : Value} {l : List UInt8} (h : OwnR w base 5 1 v l.length (byteCells l)) :
    (convert 50 9 v).run Tryz.prog w = .ok (.string ⟨l.toArray⟩) w := by
  rcases h.form with ⟨rfl, h0⟩ | ⟨g, cap, rfl, _⟩
  · have : l = [] := List.length_eq_zero_iff.1 h0
    subst this
    rw [run_convert_bytes_string _ _ _ _ _ _ _ Tryz.underlying50 Tryz.underlying5 Tryz.underlying9]
    simp [Conv.bytesToString, Sem.run_pure]
    rfl
  · rw [run_convert_bytes_string _ _ _ _ _ _ _ Tryz.underlying50 Tryz.underlying5 Tryz.underlying9]
    have hl := run_loadCells_list (P := Tryz.prog) w ⟨g, 0, none⟩ (byteCells l) (fun j u hu => h.cells (g := g) rfl j u hu)
    have e : (byteCells l).length = l.length := by simp [byteCells]
    rw [e] at hl
    have e2 : byteCells l = (l.map fun b => ((b.toNat : Nat) : Int)).map (Value.int .u8) := by simp [byteCells]
    rw [e2] at hl
    rw [run_bytesToString _ _ _ _ _ hl, fold_push]
    rfl

def toRune (c : Int) : Int := if 0 ≤ c ∧ c ≤ 1114111 then c else 65533
theorem toRune_enc (c : Int) : encodeRune (toRune c) = encodeRune c := by
  unfold toRune
  split
  · rfl
  · rename_i h
    unfold encodeRune
    rw [encodeRuneZ_bad (r := c) (by omega)]; rfl


theorem encAll_snoc (l : List Int) (k : Nat) (h : k < l.length) : encAll (l.take (k + 1)) = encAll (l.take k) ++ encodeRune l[k] := by
  unfold encAll
  rw [List.take_succ_eq_append_getElem h, List.map_append, List.flatten_append]
  simp
theorem encAll_take (l : List Int) (k : Nat) : (encAll (l.take k)).length ≤ 4 * l.length := by
  have := encAll_len (l.take k)
  have : (l.take k).length ≤ l.length := List.length_take_le' k l
  omega

def EState (w : World) (l : List Int) (s3 s8 : Value) (wr : World) : Prop :=
  ∃ k : Nat, k ≤ l.length ∧ s8 = .int .i64 (k : Int) ∧ wr.ownsRow w.heap.size 5 1 s3 (encAll (l.take k)).length (byteCells (encAll (l.take k))) ∧ Below w.heap.size w wr



theorem encAll_one (c : Int) : encAll [c] = encodeRune c := by simp [encAll]
end Go.Proofs.YtneiiinheimglaaGreatDoor.B.E
namespace Go.Proofs.YtneiiinheimglaaGreatDoor.B
open Go.RowKit Go.Lib Go.Proofs.YtneiiinheimglaaGreatDoor Go.Proofs.YtneiiinheimglaaGreatDoor.W Go.Proofs.YtneiiinheimglaaGreatDoor.Q Go.Proofs.YtneiiinheimglaaGreatDoor.C Go.Proofs.YtneiiinheimglaaGreatDoor.Z

theorem cls_ten {c : Int} (h : cls c = 10) : c = 92 := by
  rcases cls_cases c with h1 | h1 | h1 | h1 | h1 | h1 | h1 | h1 | h1 | h1 | h1 | h1 | h1 | h1 | h1 <;> omega




end Go.Proofs.YtneiiinheimglaaGreatDoor.B
namespace Go.Proofs.YtneiiinheimglaaGreatDoor.B
open Go.RowKit Go.Lib Go.Proofs.YtneiiinheimglaaGreatDoor Go.Proofs.YtneiiinheimglaaGreatDoor.W Go.Proofs.YtneiiinheimglaaGreatDoor.Q Go.Proofs.YtneiiinheimglaaGreatDoor.C Go.Proofs.YtneiiinheimglaaGreatDoor.Z

def okMark (st mk : Int) : Bool := decide (mk = 0) || (decide (st = 4 ∨ st = 5) && (decide (60 ≤ mk) && decide (mk ≤ 63)))
def areMid (l : List UInt8) (n : Int) : Bool := decide ((l.length : Int) ≤ n) && l.all fun b => decide (32 ≤ (b.toNat : Int) ∧ (b.toNat : Int) ≤ 47)
def okInter (st : Int) (im : List UInt8) : Bool := if st = 2 ∨ st = 5 then !im.isEmpty && areMid im 3 else im.isEmpty
def okArgs (st : Int) (ar : List UInt8) : Bool := if st = 4 ∨ st = 5 then okS ar && decide (ar.length ≤ 100) else ar.isEmpty
def okText (st : Int) (tx : List UInt8) : Bool := if st = 7 ∨ st = 8 then decide (tx.length ≤ 256) else tx.isEmpty
def okP (st mk : Int) (im ar tx : List UInt8) : Bool := decide (0 ≤ st ∧ st ≤ 10) && okMark st mk && okInter st im && okArgs st ar && okText st tx
theorem okP_right {st mk : Int} {im ar tx : List UInt8} (h : okP st mk im ar tx = true) : ∃ n : Nat, st = (n : Int) ∧ right ⟨n, mk, im, ar, tx⟩ := by
  unfold okP okMark okInter okArgs okText areMid at h
  simp only [Bool.and_eq_true, Bool.or_eq_true, decide_eq_true_eq] at h
  obtain ⟨⟨⟨⟨h1, h2⟩, h3⟩, h4⟩, h5⟩ := h
  refine ⟨st.toNat, by omega, ?_⟩
  have e : (st.toNat : Int) = st := by omega
  have hI : (im = [] ∧ ¬ (st = 2 ∨ st = 5)) ∨ (im ≠ [] ∧ (st = 2 ∨ st = 5) ∧ im.length ≤ 3 ∧ ∀ b ∈ im, mid b) := by
    by_cases hs : st = 2 ∨ st = 5
    · rw [if_pos hs] at h3
      simp only [Bool.and_eq_true, Bool.not_eq_true', List.isEmpty_eq_false_iff, decide_eq_true_eq, List.all_eq_true] at h3
      refine .inr ⟨h3.1, hs, by omega, fun b hb => ?_⟩
      have := h3.2.2 b hb
      unfold mid
      omega
    · rw [if_neg hs] at h3
      exact .inl ⟨List.isEmpty_iff.1 h3, hs⟩
  have hA : ar.length ≤ 100 ∧ (ar = [] ∨ st = 4 ∨ st = 5) ∧ okS ar = true := by
    by_cases hs : st = 4 ∨ st = 5
    · rw [if_pos hs] at h4
      simp only [Bool.and_eq_true, decide_eq_true_eq] at h4
      exact ⟨h4.2, .inr hs, h4.1⟩
    · rw [if_neg hs] at h4
      have := List.isEmpty_iff.1 h4
      subst this
      exact ⟨Nat.zero_le _, .inl rfl, rfl⟩
  have hT : tx.length ≤ 256 ∧ (tx = [] ∨ st = 7 ∨ st = 8) := by
    by_cases hs : st = 7 ∨ st = 8
    · rw [if_pos hs] at h5
      exact ⟨of_decide_eq_true h5, .inr hs⟩
    · rw [if_neg hs] at h5
      have := List.isEmpty_iff.1 h5
      subst this
      exact ⟨Nat.zero_le _, .inl rfl⟩
  refine ⟨by show st.toNat ≤ 10; omega, ?_, ?_, ?_, hA.1, ?_, hT.1, ?_, ?_, ?_⟩
  · show mk = 0 ∨ 60 ≤ mk ∧ mk ≤ 63 ∧ (st.toNat = 4 ∨ st.toNat = 5)
    omega
  · show im.length ≤ 3
    rcases hI with h | h
    · rw [h.1]; exact Nat.zero_le _
    · exact h.2.2.1
  · show im = [] ↔ ¬ (st.toNat = 2 ∨ st.toNat = 5)
    rcases hI with h | h
    · exact ⟨fun _ => by omega, fun _ => h.1⟩
    · exact ⟨fun e2 => absurd e2 h.1, fun e2 => absurd h.2.1 (by omega)⟩
  · show ar = [] ∨ st.toNat = 4 ∨ st.toNat = 5
    exact hA.2.1.elim .inl (fun h => .inr (by omega))
  · show tx = [] ∨ st.toNat = 7 ∨ st.toNat = 8
    exact hT.2.elim .inl (fun h => .inr (by omega))
  · show ∀ b ∈ im, mid b
    rcases hI with h | h
    · rw [h.1]; exact fun b hb => by cases hb
    · exact h.2.2.2
  · show ∀ b ∈ ar, okB b = true
    have := hA.2.2
    unfold okS at this
    exact List.all_eq_true.1 this
theorem right_okP {p : Ps} (h : right p) : okP (p.st : Int) p.mark p.inter p.args p.text = true := by
  unfold okP okMark okInter okArgs okText areMid
  simp only [Bool.and_eq_true, Bool.or_eq_true, decide_eq_true_eq]
  have h1 := h.st
  have h2 := h.mark
  have h3 := h.ilen
  refine ⟨⟨⟨⟨by omega, ?_⟩, ?_⟩, ?_⟩, ?_⟩
  · rcases h2 with h2 | h2
    · exact .inl h2
    · exact .inr ⟨by omega, by omega⟩
  · by_cases hs : (p.st : Int) = 2 ∨ (p.st : Int) = 5
    · rw [if_pos hs]
      simp only [Bool.and_eq_true, Bool.not_eq_true', List.isEmpty_eq_false_iff, decide_eq_true_eq, List.all_eq_true]
      refine ⟨fun e => h.inter.1 e (by omega), by omega, fun b hb => ?_⟩
      have := h.mids b hb
      unfold mid at this
      omega
    · rw [if_neg hs]
      exact List.isEmpty_iff.2 (h.inter.2 (by omega))
  · by_cases hs : (p.st : Int) = 4 ∨ (p.st : Int) = 5
    · rw [if_pos hs]
      simp only [Bool.and_eq_true, decide_eq_true_eq]
      refine ⟨?_, h.alen⟩
      unfold okS
      exact List.all_eq_true.2 h.signs
    · rw [if_neg hs]
      exact List.isEmpty_iff.2 (h.args.elim id (fun h => by omega))
  · by_cases hs : (p.st : Int) = 7 ∨ (p.st : Int) = 8
    · rw [if_pos hs]
      exact decide_eq_true h.tlen
    · rw [if_neg hs]
      exact List.isEmpty_iff.2 (h.text.elim id (fun h => by omega))


theorem bne_of {a b : Int} (h : ¬ a = b) : (a != b) = true := by unfold bne; rw [beq_false_of_ne h]; rfl
theorem isEmpty_bs (l : List UInt8) : (bs l).toList.isEmpty = l.isEmpty := by rw [ByteArray.toList_eq]; rfl


theorem areMid_step {l : List UInt8} {k : Nat} (h : k < l.length) : (l.drop k).all (fun b => decide (32 ≤ (b.toNat : Int) ∧ (b.toNat : Int) ≤ 47)) = (decide (32 ≤ ((l[k]).toNat : Int) ∧ ((l[k]).toNat : Int) ≤ 47) && (l.drop (k + 1)).all fun b => decide (32 ≤ (b.toNat : Int) ∧ (b.toNat : Int) ≤ 47)) := by
  rw [List.drop_eq_getElem_cons h, List.all_cons]
set_option maxHeartbeats 4000000 in
set_option maxRecDepth 100000 in
theorem areInter_any (im : List UInt8) (n : Int) (w : World) (hl : im.length ≤ 1099511627776) : Calls Tryz.prog 34 #[.string (bs im), .int .i64 n] w fun e w' => e = .returned (.bool (areMid im n)) ∧ w' = w := by
  have hsz := C.bs_size im
  have HI := Hid.mk' (fun c W => isInter_any c W)
  unfold areMid
  by_cases h1 : (im.length : Int) ≤ n
  · have h2 : ¬ n < ((bs im).size : Int) := by omega
    rw [decide_eq_true h1, Bool.true_and]
    have HG : Hid (∀ k (h : k < im.length) (h2 : k < (bs im).size), (bs im)[k]'h2 = im[k]'h) := fun k h h2 => get_mk im k h h2
    generalize bs im = S at *
    go_enter Tryz.func34, Tryz.ntmps34
    go_wp2_with fail
    go_loopw [12] (fun s12 wr => ∃ k : Nat, k ≤ im.length ∧ s12 = .int .i64 (k : Int) ∧ Hid (im.all (fun b => decide (32 ≤ (b.toNat : Int) ∧ (b.toNat : Int) ≤ 47)) = (im.drop k).all (fun b => decide (32 ≤ (b.toNat : Int) ∧ (b.toNat : Int) ≤ 47))) ∧ wr = w) (fun i _ => im.length - (RowKit.intOf i).toNat)
    case atStart => exact ⟨0, Nat.zero_le _, rfl, rfl, rfl⟩
    case round =>
      obtain ⟨k, hk, rfl, HE, hw⟩ := hrel
      subst hw
      by_cases hlt : k < im.length
      · have hgt := HG.out k hlt (by omega)
        rw [areMid_step hlt] at HE
        generalize im[k] = y at *
        have HX := Hid.mk' (HI.out (y.toNat : Int) wr)
        have hgt2 : ((S[k]'(by omega)).toNat : Int) = (y.toNat : Int) := by rw [hgt]
        have hz : 0 ≤ (y.toNat : Int) ∧ (y.toNat : Int) < 256 := by have := y.toNat_lt; omega
        obtain ⟨hz0, hz1⟩ := hz
        clear hgt HG
        by_cases hy : 32 ≤ (y.toNat : Int) ∧ (y.toNat : Int) ≤ 47
        · rw [decide_eq_true hy] at HX HE
          rw [Bool.true_and] at HE
          clear hy
          generalize (y.toNat : Int) = z at *
          go_wp2_with fail
          refine HX.out.mono ?_
          rintro e w2 ⟨rfl, rfl⟩
          go_wp2
          go_roundw
          case rel => exact ⟨k + 1, by omega, by go_num, HE, trivial⟩
          case measure => simp [RowKit.intOf]; omega
        · rw [decide_eq_false hy] at HX HE
          rw [Bool.false_and] at HE
          have HE2 := Hid.mk' HE.out
          clear hy HE
          generalize (y.toNat : Int) = z at *
          go_wp2_with fail
          refine HX.out.mono ?_
          rintro e w2 ⟨rfl, rfl⟩
          go_wp2
          go_ret
          exact ⟨congrArg (fun b => Ending.returned (Value.bool b)) HE2.out.symm, rfl⟩
      · obtain rfl : k = im.length := by omega
        rw [List.drop_length] at HE
        have HE2 := Hid.mk' HE.out
        clear HG HE
        go_wp2
        go_ret
        exact ⟨congrArg (fun b => Ending.returned (Value.bool b)) HE2.out.symm, rfl⟩
  · have h2 : n < ((bs im).size : Int) := by omega
    rw [decide_eq_false h1, Bool.false_and]
    generalize bs im = S at *
    go_enter Tryz.func34, Tryz.ntmps34
    go_wp2
    go_ret
    exact ⟨rfl, rfl⟩




end Go.Proofs.YtneiiinheimglaaGreatDoor.B
namespace Go.Proofs.YtneiiinheimglaaGreatDoor.B
open Go.Lib Go.Proofs.YtneiiinheimglaaGreatDoor Go.Proofs.YtneiiinheimglaaGreatDoor.U

theorem dec_enc {r : Nat} (h : isRune r) (t : List UInt8) : dec (encodeRune (r : Int) ++ t) = (r, (encodeRune (r : Int)).length) := by
  rw [encN_eq h]
  unfold isRune at h
  unfold encN
  by_cases c0 : r < 128
  · rw [if_pos c0]
    simp only [List.map_cons, List.map_nil, List.cons_append, List.nil_append]
    have e0 := u8_nat (n := r) (by omega)
    generalize r.toUInt8 = a at e0
    have hd : dec (a :: t) = (r, 1) := by unfold dec nth; simp only [List.getD_cons_zero, e0]; unfold decodeN; rw [if_pos c0]
    exact hd
  rw [if_neg c0]
  by_cases c1 : r < 2048
  · rw [if_pos c1]
    simp only [List.map_cons, List.map_nil, List.cons_append, List.nil_append]
    have e0 := u8_nat (n := 192 + r / 64) (by omega)
    have e1 := u8_nat (n := 128 + r % 64) (by omega)
    generalize (192 + r / 64).toUInt8 = a at e0
    generalize (128 + r % 64).toUInt8 = b at e1
    have hd : dec (a :: b :: t) = (r, 2) := by
      unfold dec nth; simp only [List.getD_cons_zero, List.getD_cons_succ, e0, e1, List.length_cons]; unfold decodeN
      rw [if_neg (by omega), if_pos (by omega), if_pos (by omega)]
      refine Prod.ext ?_ rfl
      simp only; omega
    exact hd
  rw [if_neg c1]
  by_cases c2 : r < 65536
  · rw [if_pos c2]
    simp only [List.map_cons, List.map_nil, List.cons_append, List.nil_append]
    have e0 := u8_nat (n := 224 + r / 4096) (by omega)
    have e1 := u8_nat (n := 128 + r / 64 % 64) (by omega)
    have e2 := u8_nat (n := 128 + r % 64) (by omega)
    generalize (224 + r / 4096).toUInt8 = a at e0
    generalize (128 + r / 64 % 64).toUInt8 = b at e1
    generalize (128 + r % 64).toUInt8 = c at e2
    have hd : dec (a :: b :: c :: t) = (r, 3) := by
      unfold dec nth; simp only [List.getD_cons_zero, List.getD_cons_succ, e0, e1, e2, List.length_cons]; unfold decodeN
      rw [if_neg (by omega), if_neg (by omega), if_pos (by omega), if_pos (by omega)]
      refine Prod.ext ?_ rfl
      simp only; omega
    exact hd
  rw [if_neg c2]
  simp only [List.map_cons, List.map_nil, List.cons_append, List.nil_append]
  have e0 := u8_nat (n := 240 + r / 262144) (by omega)
  have e1 := u8_nat (n := 128 + r / 4096 % 64) (by omega)
  have e2 := u8_nat (n := 128 + r / 64 % 64) (by omega)
  have e3 := u8_nat (n := 128 + r % 64) (by omega)
  generalize (240 + r / 262144).toUInt8 = a at e0
  generalize (128 + r / 4096 % 64).toUInt8 = b at e1
  generalize (128 + r / 64 % 64).toUInt8 = c at e2
  generalize (128 + r % 64).toUInt8 = d at e3
  have hd : dec (a :: b :: c :: d :: t) = (r, 4) := by
    unfold dec nth; simp only [List.getD_cons_zero, List.getD_cons_succ, e0, e1, e2, e3, List.length_cons]; unfold decodeN
    rw [if_neg (by omega), if_neg (by omega), if_neg (by omega), if_pos (by omega), if_pos (by omega)]
    refine Prod.ext ?_ rfl
    simp only; omega
  exact hd

theorem decodeL_dec (l : List UInt8) : decodeL l = dec l := by rw [decodeL_N]; rfl
theorem enc_ne (r : Nat) : encodeRune (r : Int) ≠ [] := fun e => by
  have h := (encodeRuneZ_length (r : Int)).1
  unfold encodeRune at e
  have e2 := congrArg List.length e
  rw [List.length_map, List.length_nil] at e2
  omega
theorem valid_enc {r : Nat} (h : isRune r) (t : List UInt8) : validD (encodeRune (r : Int) ++ t) = validD t := by
  have hne : encodeRune (r : Int) ++ t ≠ [] := fun e => enc_ne r (List.append_eq_nil_iff.1 e).1
  rw [validD_step _ hne, decodeL_dec, dec_enc h t]
  dsimp only
  rw [if_neg (fun e => by
    obtain ⟨rfl, e2⟩ := e
    have : (encodeRune ((65533 : Nat) : Int)).length = 3 := by decide +kernel
    omega), List.drop_left]
theorem valid_encAll : ∀ l : List Int, validD (encAll l) = true
  | [] => validD_nil
  | c :: l => by
    have : encAll (c :: l) = encodeRune (fixR c : Int) ++ encAll l := by rw [← enc_nat]; rfl
    rw [this, valid_enc (fixR_rune c), valid_encAll l]
theorem valid_step {s : List UInt8} (h : validD s = true) (hne : s ≠ []) : s = encodeRune ((dec s).1 : Int) ++ s.drop (dec s).2 ∧ validD (s.drop (dec s).2) = true := by
  rw [validD_step s hne, decodeL_dec] at h
  by_cases hb : (dec s).1 = 65533 ∧ (dec s).2 = 1
  · rw [if_pos hb] at h; cases h
  · rw [if_neg hb] at h
    have e := encode_decode s hne (by rw [decodeL_dec]; exact hb)
    rw [decodeL_dec] at e
    exact ⟨by rw [e, List.take_append_drop], h⟩
theorem runes_cons {s : List UInt8} (h : validD s = true) (hne : s ≠ []) : runesOf s = ((dec s).1 : Int) :: runesOf (s.drop (dec s).2) := by
  have e := (valid_step h hne).1
  have r := rd_enc (dec_rune s) (s.drop (dec s).2)
  rw [← e] at r
  unfold runesOf
  rw [r]
  rfl
theorem valid_runes : ∀ (n : Nat) (s : List UInt8), s.length ≤ n → validD s = true → encAll (runesOf s) = s ∧ (rd s).1 = []
  | 0, s, h, _ => by
    obtain rfl := List.eq_nil_of_length_eq_zero (Nat.le_zero.mp h)
    exact ⟨rfl, rfl⟩
  | n + 1, s, h, hv => by
    by_cases hne : s = []
    · subst hne; exact ⟨rfl, rfl⟩
    · obtain ⟨e, hv2⟩ := valid_step hv hne
      have hp := dec_pos s
      have hl : (s.drop (dec s).2).length = s.length - (dec s).2 := List.length_drop
      have hn : s.length ≠ 0 := fun e => hne (List.eq_nil_of_length_eq_zero e)
      have ih := valid_runes n (s.drop (dec s).2) (by omega) hv2
      refine ⟨?_, ?_⟩
      · rw [runes_cons hv hne, encAll_cons, ih.1]
        exact e.symm
      · have r := rd_enc (dec_rune s) (s.drop (dec s).2)
        rw [← e] at r
        rw [r]
        exact ih.2
theorem valid_iff (s : List UInt8) : validD s = true ↔ encAll (runesOf s) = s :=
  ⟨fun h => (valid_runes s.length s (Nat.le_refl _) h).1, fun h => by rw [← h]; exact valid_encAll _⟩
end Go.Proofs.YtneiiinheimglaaGreatDoor.B
namespace Go.Proofs.YtneiiinheimglaaGreatDoor.B
open Go.RowKit Go.Lib Go.Proofs.YtneiiinheimglaaGreatDoor Go.Proofs.YtneiiinheimglaaGreatDoor.W Go.Proofs.YtneiiinheimglaaGreatDoor.Q Go.Proofs.YtneiiinheimglaaGreatDoor.C Go.Proofs.YtneiiinheimglaaGreatDoor.Z

theorem bool_in {a b : Bool} (h : a = b) : Value.bool a = Value.bool b := congrArg Value.bool h
set_option maxHeartbeats 1000000 in
theorem ValidRune_any (c : Int) (w : World) : Calls Tryz.prog 32 #[.int .i32 c] w fun e w' => e = .returned (.bool (decide (isR c))) ∧ w' = w := by
  by_cases h0 : 0 ≤ c
  · by_cases h1 : c < 55296
    · rw [decide_eq_true (show isR c from .inl ⟨h0, h1⟩)]
      go_enter Tryz.func32, Tryz.ntmps32
      go_wp2
      go_ret
      exact ⟨rfl, rfl⟩
    · by_cases h2 : 57343 < c
      · by_cases h3 : c ≤ 1114111
        · rw [decide_eq_true (show isR c from .inr ⟨by omega, h3⟩)]
          go_enter Tryz.func32, Tryz.ntmps32
          go_wp2
          go_ret
          exact ⟨rfl, rfl⟩
        · rw [decide_eq_false (show ¬ isR c from by unfold isR; omega)]
          go_enter Tryz.func32, Tryz.ntmps32
          go_wp2
          go_ret
          exact ⟨rfl, rfl⟩
      · rw [decide_eq_false (show ¬ isR c from by unfold isR; omega)]
        go_enter Tryz.func32, Tryz.ntmps32
        go_wp2
        go_ret
        exact ⟨rfl, rfl⟩
  · have h2 : ¬ 57343 < c := by omega
    rw [decide_eq_false (show ¬ isR c from by unfold isR; omega)]
    go_enter Tryz.func32, Tryz.ntmps32
    go_wp2
    go_ret
    exact ⟨rfl, rfl⟩

def prB (c : Int) : Bool := decide (canPrint c ∧ isR c)
set_option maxHeartbeats 1000000 in
theorem isPrinted_any (c : Int) (w : World) : Calls Tryz.prog 16 #[.int .i64 c] w fun e w' => e = .returned (.bool (prB c)) ∧ w' = w := by
  have HM := Hid.mk' (isMute_any c w)
  have HV := Hid.mk' (ValidRune_any c w)
  unfold prB
  by_cases h0 : 32 ≤ c
  · by_cases h1 : c ≤ 1114111
    · by_cases h2 : 127 ≤ c ∧ c ≤ 159
      · rw [decide_eq_true h2] at HM
        rw [decide_eq_false (fun h => by have := h.1; unfold canPrint at this; omega)]
        clear h2 HV
        go_enter Tryz.func16, Tryz.ntmps16
        go_wp2_with fail
        refine HM.out.mono ?_
        rintro e w2 ⟨rfl, rfl⟩
        go_wp2
        go_ret
        exact ⟨rfl, rfl⟩
      · rw [decide_eq_false h2] at HM
        have e : decide (canPrint c ∧ isR c) = decide (isR c) := by
          rw [decide_eq_decide]
          exact ⟨fun h => h.2, fun h => ⟨by unfold canPrint; omega, h⟩⟩
        rw [e]
        clear h2 e
        generalize decide (isR c) = R at *
        go_enter Tryz.func16, Tryz.ntmps16
        go_wp2_with fail
        refine HM.out.mono ?_
        rintro e w2 ⟨rfl, rfl⟩
        go_wp2_with fail
        refine HV.out.mono ?_
        rintro e w2 ⟨rfl, rfl⟩
        go_wp2
        go_ret
        exact ⟨rfl, rfl⟩
    · rw [decide_eq_false (fun h => by have := h.1; unfold canPrint at this; omega)]
      clear HM HV
      go_enter Tryz.func16, Tryz.ntmps16
      go_wp2
      go_ret
      exact ⟨rfl, rfl⟩
  · rw [decide_eq_false (fun h => by have := h.1; unfold canPrint at this; omega)]
    clear HM HV
    go_enter Tryz.func16, Tryz.ntmps16
    go_wp2
    go_ret
    exact ⟨rfl, rfl⟩

def acB (c : Int) : Bool := decide (0 ≤ c ∧ c ≤ 31 ∧ c ≠ 24 ∧ c ≠ 26 ∧ c ≠ 27)
set_option maxHeartbeats 1000000 in
theorem isActing_any (c : Int) (w : World) : Calls Tryz.prog 17 #[.int .i64 c] w fun e w' => e = .returned (.bool (acB c)) ∧ w' = w := by
  have HC := Hid.mk' (isControl_any c w)
  unfold acB
  by_cases h0 : 0 ≤ c ∧ c ≤ 31
  · rw [decide_eq_true h0] at HC
    by_cases h1 : c = 24
    · subst h1
      rw [decide_eq_false (by omega)]
      clear h0
      go_enter Tryz.func17, Tryz.ntmps17
      go_wp2_with fail
      refine HC.out.mono ?_
      rintro e w2 ⟨rfl, rfl⟩
      go_wp2
      go_ret
      exact ⟨rfl, rfl⟩
    · have g1 : (c != 24) = true := bne_of h1
      by_cases h2 : c = 26
      · subst h2
        rw [decide_eq_false (by omega)]
        clear h0 h1
        go_enter Tryz.func17, Tryz.ntmps17
        go_wp2_with fail
        refine HC.out.mono ?_
        rintro e w2 ⟨rfl, rfl⟩
        go_wp2
        go_ret
        exact ⟨rfl, rfl⟩
      · have g2 : (c != 26) = true := bne_of h2
        by_cases h3 : c = 27
        · subst h3
          rw [decide_eq_false (by omega)]
          clear h0 h1 h2
          go_enter Tryz.func17, Tryz.ntmps17
          go_wp2_with fail
          refine HC.out.mono ?_
          rintro e w2 ⟨rfl, rfl⟩
          go_wp2
          go_ret
          exact ⟨rfl, rfl⟩
        · have g3 : (c != 27) = true := bne_of h3
          rw [decide_eq_true ⟨h0.1, h0.2, h1, h2, h3⟩]
          clear h0 h1 h2 h3
          go_enter Tryz.func17, Tryz.ntmps17
          go_wp2_with fail
          refine HC.out.mono ?_
          rintro e w2 ⟨rfl, rfl⟩
          go_wp2
          go_ret
          exact ⟨rfl, rfl⟩
  · rw [decide_eq_false h0] at HC
    rw [decide_eq_false (fun h => h0 ⟨h.1, h.2.1⟩)]
    clear h0
    go_enter Tryz.func17, Tryz.ntmps17
    go_wp2_with fail
    refine HC.out.mono ?_
    rintro e w2 ⟨rfl, rfl⟩
    go_wp2
    go_ret
    exact ⟨rfl, rfl⟩

def escB (i : List UInt8) (c : Int) : Bool := areMid i 2 && decide (48 ≤ c ∧ c ≤ 126) && (!i.isEmpty || !decide (special c))
theorem special_mem {c : Int} (h0 : 0 ≤ c) (h1 : c < 128) : (sg c ∈ (⟨#[91, 93, 80, 88, 94, 95]⟩ : ByteArray).data.toList) ↔ special c := by
  rw [sg_mem _ h0 h1]
  show c ∈ [(91 : Int), 93, 80, 88, 94, 95] ↔ _
  unfold special
  simp
set_option maxHeartbeats 2000000 in
theorem isEscEnd_any (i : List UInt8) (c : Int) (w : World) (hl : i.length ≤ 1099511627776) : Calls Tryz.prog 18 #[.string (bs i), .int .i64 c] w fun e w' => e = .returned (.bool (escB i c)) ∧ w' = w := by
  have HA := Hid.mk' (areInter_any i 2 w hl)
  have he := isEmpty_bs i
  unfold escB
  generalize areMid i 2 = B1 at *
  generalize i.isEmpty = B2 at *
  clear hl
  generalize bs i = S at *
  cases B1 with
  | false =>
    rw [Bool.false_and, Bool.false_and]
    clear he
    go_enter Tryz.func18, Tryz.ntmps18
    go_wp2_with fail
    refine HA.out.mono ?_
    rintro e w2 ⟨rfl, rfl⟩
    go_wp2
    go_ret
    exact ⟨rfl, rfl⟩
  | true =>
    rw [Bool.true_and]
    by_cases h0 : 48 ≤ c
    · have g0 : ¬ c < 48 := by omega
      by_cases h1 : c ≤ 126
      · have g1 : ¬ 126 < c := by omega
        rw [decide_eq_true ⟨h0, h1⟩, Bool.true_and]
        cases B2 with
        | false =>
          rw [Bool.not_false, Bool.true_or]
          go_enter Tryz.func18, Tryz.ntmps18
          go_wp2_with fail
          refine HA.out.mono ?_
          rintro e w2 ⟨rfl, rfl⟩
          go_wp2
          go_ret
          exact ⟨rfl, rfl⟩
        | true =>
          rw [Bool.not_true, Bool.false_or]
          have HC := Hid.mk' (ContainsRune_any ⟨#[91, 93, 80, 88, 94, 95]⟩ c w (by omega) (by omega))
          have e : decide (sg c ∈ (⟨#[91, 93, 80, 88, 94, 95]⟩ : ByteArray).data.toList) = decide (special c) := by
            rw [decide_eq_decide]; exact special_mem (by omega) (by omega)
          rw [e] at HC
          generalize decide (special c) = R at *
          clear e
          go_enter Tryz.func18, Tryz.ntmps18
          go_wp2_with fail
          refine HA.out.mono ?_
          rintro e w2 ⟨rfl, rfl⟩
          go_wp2_with fail
          refine HC.out.mono ?_
          rintro e w2 ⟨rfl, rfl⟩
          go_wp2
          go_ret
          exact ⟨rfl, rfl⟩
      · have g1 : 126 < c := by omega
        rw [decide_eq_false (by omega), Bool.false_and]
        clear he
        go_enter Tryz.func18, Tryz.ntmps18
        go_wp2_with fail
        refine HA.out.mono ?_
        rintro e w2 ⟨rfl, rfl⟩
        go_wp2
        go_ret
        exact ⟨rfl, rfl⟩
    · have g0 : c < 48 := by omega
      rw [decide_eq_false (by omega), Bool.false_and]
      clear he
      go_enter Tryz.func18, Tryz.ntmps18
      go_wp2_with fail
      refine HA.out.mono ?_
      rintro e w2 ⟨rfl, rfl⟩
      go_wp2
      go_ret
      exact ⟨rfl, rfl⟩

end Go.Proofs.YtneiiinheimglaaGreatDoor.B
