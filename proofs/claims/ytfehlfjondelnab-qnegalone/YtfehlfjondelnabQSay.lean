/-
  Contracts of qneg.saying and qneg.Takes; condition of saying: the option is from 0 to 255.
-/
import Derived.Test.YtfehlfjondelnabQCheck
import Derived.Lib.ConvBytes
namespace Go.Proofs.Ytfehlfjondelnab.Q
open Go.RowKit Go.Proofs.Ytfehlfjondelnab

/-- the bytes of a word -/
def word (us : Bool) (say : Int) (k : Nat) : List UInt8 := if say = 0 then [] else [255, (cmdB us (say == 1)).toNat.toUInt8, k.toUInt8]

def bcells (l : List UInt8) : List Value := l.map fun b => .int .u8 (b.toNat : Int)
theorem fold_push (l : List UInt8) : ∀ s : ByteArray, ((l.map fun b => ((b.toNat : Nat) : Int)).foldl (fun r n => r.push (UInt8.ofNat n.toNat)) s) = ⟨(s.data.toList ++ l).toArray⟩ := by
  induction l with
  | nil => intro s; simp
  | cons a l ih =>
    intro s
    rw [List.map_cons, List.foldl_cons, ih]
    congr 1
    simp [ByteArray.push]
/-- bytes in a block made a string -/
theorem run_str {w : World} {b : Nat} {t : TypeId} {l : List UInt8} {n c : Nat} (hn : n = l.length) (h : Box w b t (bcells l)) :
    (convert 53 9 (.slice (some ⟨b, 0, none⟩) n c)).run Try.prog w = .ok (.string ⟨l.toArray⟩) w := by
  subst hn
  rw [run_convert_bytes_string _ _ _ _ _ _ _ Try.underlying53 Try.underlying5 Try.underlying9]
  have hl := run_loadCells_list (P := Try.prog) w ⟨b, 0, none⟩ (bcells l) (fun j u hu => by rw [Addr.add_mid, Nat.zero_add]; exact h.cell hu)
  have e : (bcells l).length = l.length := by simp [bcells]
  rw [e] at hl
  have e2 : bcells l = (l.map fun b => ((b.toNat : Nat) : Int)).map (Value.int .u8) := by simp [bcells]
  rw [e2] at hl
  rw [run_bytesToString _ _ _ _ _ hl, fold_push]
  rfl

theorem cmdB_bd (us on : Bool) : 0 ≤ cmdB us on ∧ cmdB us on < 256 := by cases us <;> cases on <;> decide
theorem u8_of {k : Nat} (h : k < 256) : ((k.toUInt8).toNat : Int) = (k : Int) := by
  simp only [Nat.toUInt8, UInt8.toNat_ofNat']
  omega
theorem bcells3 (us on : Bool) {k : Nat} (hk : k < 256) : bcells [255, (cmdB us on).toNat.toUInt8, k.toUInt8] = [.int .u8 255, .int .u8 (cmdB us on), .int .u8 (k : Int)] := by
  obtain ⟨h0, h1⟩ := cmdB_bd us on
  simp only [bcells, List.map_cons, List.map_nil, u8_of hk, u8_of (show (cmdB us on).toNat < 256 by omega), Int.toNat_of_nonneg h0]
  rfl

set_option maxHeartbeats 4000000 in
theorem saying_any (us : Bool) (say : Int) (k : Nat) (hk : k < 256) (w : World) :
    Calls Try.prog 19 #[.bool us, .int .i64 say, .int .i64 (k : Int)] w fun e w' => e = .returned (.string ⟨(word us say k).toArray⟩) ∧ Below w.heap.size w w' := by
  have k0 : (0 : Int) ≤ (k : Int) := by omega
  have k1 : (k : Int) ≤ 255 := by omega
  unfold word
  by_cases h0 : say = 0
  · subst h0
    go_enter Try.func19, Try.ntmps19
    go_wp2
    go_ret
    exact ⟨rfl, Below.refl _ _⟩
  · rw [if_neg h0]
    have HC := Hid.mk' (command_any us (say == 1))
    have HB := Box.new w 5 (bcells [255, (cmdB us (say == 1)).toNat.toUInt8, k.toUInt8])
    have hs := run_str (n := 3) (c := 3) rfl HB
    rw [bcells3 us _ hk] at hs
    generalize (⟨[255, (cmdB us (say == 1)).toNat.toUInt8, k.toUInt8].toArray⟩ : ByteArray) = S at *
    clear HB
    generalize cmdB us (say == 1) = c at *
    go_enter Try.func19, Try.ntmps19
    go_wp2_with fail
    refine (HC.out _).mono ?_
    rintro e w1 ⟨rfl, rfl⟩
    go_wp2
    go_ret
    exact ⟨rfl, (Below.refl _ _).alloc (Nat.le_refl _) _⟩

/-- the cells of a token -/
def tok (kd cm op : Int) (d : ByteArray) : List Value := [.int .i64 kd, .int .i64 cm, .int .i64 op, .string d]
def isSay (kd cm op : Int) (d : ByteArray) : Bool := decide (kd = 3 ∧ (251 ≤ cm ∧ cm ≤ 254) ∧ (0 ≤ op ∧ op ≤ 255)) && d.toList.isEmpty

set_option maxHeartbeats 4000000 in
theorem Takes_any (kd cm op : Int) (d : ByteArray) (w : World) :
    Calls Try.prog 14 #[.agg (tok kd cm op d).toArray] w fun e w' => e = .returned (.bool (isSay kd cm op d)) ∧ Below w.heap.size w w' := by
  have HO := Hid.mk' (isOption_any op)
  unfold tok isSay
  by_cases hc : 251 ≤ cm ∧ cm ≤ 254
  · by_cases hk : kd = 3
    · subst hk
      by_cases ho : 0 ≤ op ∧ op ≤ 255
      · rw [show isOp op = true from decide_eq_true ho] at HO
        rw [decide_eq_true ⟨rfl, hc, ho⟩, Bool.true_and]
        obtain ⟨c1, c2⟩ := hc
        clear ho
        generalize hd : d.toList.isEmpty = E at *
        cases E
        all_goals
          go_enter Try.func14, Try.ntmps14
          go_wp2_with fail
          refine (HO.out _).mono ?_
          rintro e w1 ⟨rfl, rfl⟩
          go_wp2
          go_ret
          exact ⟨rfl, (Below.refl _ _).alloc (Nat.le_refl _) _⟩
      · rw [show isOp op = false from decide_eq_false ho] at HO
        rw [decide_eq_false (fun h => ho h.2.2), Bool.false_and]
        obtain ⟨c1, c2⟩ := hc
        clear ho
        go_enter Try.func14, Try.ntmps14
        go_wp2_with fail
        refine (HO.out _).mono ?_
        rintro e w1 ⟨rfl, rfl⟩
        go_wp2
        go_ret
        exact ⟨rfl, (Below.refl _ _).alloc (Nat.le_refl _) _⟩
    · rw [decide_eq_false (fun h => hk h.1), Bool.false_and]
      obtain ⟨c1, c2⟩ := hc
      go_enter Try.func14, Try.ntmps14
      go_wp2
      go_ret
      exact ⟨rfl, (Below.refl _ _).alloc (Nat.le_refl _) _⟩
  · rw [decide_eq_false (fun h => hc h.2.1), Bool.false_and]
    by_cases c1 : 251 ≤ cm
    · have c2 : ¬ cm ≤ 254 := fun h => hc ⟨c1, h⟩
      clear hc
      by_cases hk : kd = 3
      · subst hk
        go_enter Try.func14, Try.ntmps14
        go_wp2
        go_ret
        exact ⟨rfl, (Below.refl _ _).alloc (Nat.le_refl _) _⟩
      · go_enter Try.func14, Try.ntmps14
        go_wp2
        go_ret
        exact ⟨rfl, (Below.refl _ _).alloc (Nat.le_refl _) _⟩
    · clear hc
      by_cases hk : kd = 3
      · subst hk
        go_enter Try.func14, Try.ntmps14
        go_wp2
        go_ret
        exact ⟨rfl, (Below.refl _ _).alloc (Nat.le_refl _) _⟩
      · go_enter Try.func14, Try.ntmps14
        go_wp2
        go_ret
        exact ⟨rfl, (Below.refl _ _).alloc (Nat.le_refl _) _⟩
end Go.Proofs.Ytfehlfjondelnab.Q
