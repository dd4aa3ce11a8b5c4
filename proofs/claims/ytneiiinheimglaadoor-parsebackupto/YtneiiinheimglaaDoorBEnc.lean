/-
  Contracts of utf.toRune and utf.Encode at a slice of ints; condition: at most 1073741824 numbers.
-/
import Derived.Test.YtneiiinheimglaaDoorBShelf
import Derived.Test.YtneiiinheimglaaDoorWMem
import Derived.Test.YtneiiinheimglaaDoorULaw2
import Derived.Laws.BytesString
import Derived.OwnWalk
namespace Go.Proofs.YtneiiinheimglaaDoor.B.E
open Go.RowKit Go.Lib Go.Proofs.YtneiiinheimglaaDoor Go.Proofs.YtneiiinheimglaaDoor.U
theorem Hid.mk' {p : Prop} (h : p) : Hid p := h

theorem fold_push (l : List UInt8) : ∀ s : ByteArray, ((l.map fun b => ((b.toNat : Nat) : Int)).foldl (fun r n => r.push (UInt8.ofNat n.toNat)) s) = ⟨(s.data.toList ++ l).toArray⟩ := by
  induction l with
  | nil => intro s; simp
  | cons a l ih =>
    intro s
    rw [List.map_cons, List.foldl_cons, ih]
    congr 1
    simp [ByteArray.push]

theorem run_str {w : World} {base : Nat} {v : Value} {l : List UInt8} (h : OwnR w base 5 1 v l.length (byteCells l)) :
    (convert 44 9 v).run Tryd.prog w = .ok (.string ⟨l.toArray⟩) w := by
  rcases h.form with ⟨rfl, h0⟩ | ⟨g, cap, rfl, _⟩
  · have : l = [] := List.length_eq_zero_iff.1 h0
    subst this
    rw [run_convert_bytes_string _ _ _ _ _ _ _ Tryd.underlying44 Tryd.underlying5 Tryd.underlying9]
    simp [Conv.bytesToString, Sem.run_pure]
    rfl
  · rw [run_convert_bytes_string _ _ _ _ _ _ _ Tryd.underlying44 Tryd.underlying5 Tryd.underlying9]
    have hl := run_loadCells_list (P := Tryd.prog) w ⟨g, 0, none⟩ (byteCells l) (fun j u hu => h.cells (g := g) rfl j u hu)
    have e : (byteCells l).length = l.length := by simp [byteCells]
    rw [e] at hl
    have e2 : byteCells l = (l.map fun b => ((b.toNat : Nat) : Int)).map (Value.int .u8) := by simp [byteCells]
    rw [e2] at hl
    rw [run_bytesToString _ _ _ _ _ hl, fold_push]
    rfl

def toRune (c : Int) : Int := if 0 ≤ c ∧ c ≤ 1114111 then c else 65533
theorem toRune_enc (c : Int) : encodeRune (toRune c) = encodeRune c := by
  unfold toRune
  split
  · rfl
  · rename_i h
    unfold encodeRune
    rw [encodeRuneZ_bad (r := c) (by omega)]; rfl

set_option maxHeartbeats 1000000 in
theorem toRune_any (c : Int) (w : World) : Calls Tryd.prog 99 #[.int .i64 c] w fun e w' => e = .returned (.int .i32 (toRune c)) ∧ w' = w := by
  unfold toRune
  by_cases h1 : c < 0
  · rw [if_neg (by omega)]
    go_enter Tryd.func99, Tryd.ntmps99
    go_wp2
    go_ret
    exact ⟨rfl, rfl⟩
  by_cases h2 : (1114111 : Int) < c
  · rw [if_neg (by omega)]
    go_enter Tryd.func99, Tryd.ntmps99
    go_wp2
    go_ret
    exact ⟨rfl, rfl⟩
  have h3 : c ≤ 2147483647 := by omega
  have h4 : 0 ≤ c := by omega
  rw [if_pos (by omega)]
  go_enter Tryd.func99, Tryd.ntmps99
  go_wp2
  go_ret
  exact ⟨rfl, rfl⟩

theorem encAll_snoc (l : List Int) (k : Nat) (h : k < l.length) : encAll (l.take (k + 1)) = encAll (l.take k) ++ encodeRune l[k] := by
  unfold encAll
  rw [List.take_succ_eq_append_getElem h, List.map_append, List.flatten_append]
  simp
theorem encAll_take (l : List Int) (k : Nat) : (encAll (l.take k)).length ≤ 4 * l.length := by
  have := encAll_len (l.take k)
  have : (l.take k).length ≤ l.length := List.length_take_le' k l
  omega

def EState (w : World) (l : List Int) (s3 s8 : Value) (wr : World) : Prop :=
  ∃ k : Nat, k ≤ l.length ∧ s8 = .int .i64 (k : Int) ∧ wr.ownsRow w.heap.size 5 1 s3 (encAll (l.take k)).length (byteCells (encAll (l.take k))) ∧ Below w.heap.size w wr

set_option maxHeartbeats 4000000 in
set_option maxRecDepth 100000 in
theorem Encode_some (l : List Int) (b off cap : Nat) (w : World) (hcl : ∀ j (h : j < l.length), w.cell? ⟨b, off + j, none⟩ = some (.int .i64 l[j])) (hb : b < w.heap.size) (hl : l.length ≤ 1073741824) :
    Calls Tryd.prog 83 #[.slice (some ⟨b, off, none⟩) l.length cap] w fun e w' => e = .returned (.string ⟨(encAll l).toArray⟩) ∧ Below w.heap.size w w' := by
  have HS : Hid (EState w l (.slice none 0 0) (.int .i64 0) w) := ⟨0, Nat.zero_le _, rfl, ⟨by simp [encAll, byteCells], .inl ⟨rfl, by simp [encAll]⟩⟩, Below.refl _ _⟩
  have HC := Hid.mk' hcl
  clear hcl
  go_enter Tryd.func83, Tryd.ntmps83
  go_wp2_with fail
  go_loopw [3, 8] (fun s3 s8 wr => EState w l s3 s8 wr) (fun _ i _ => l.length - (RowKit.intOf i).toNat)
  case atStart => exact HS.out
  case round =>
    obtain ⟨k, hk, rfl, ho, hbl⟩ := hrel
    clear HS
    have HB := Hid.mk' hbl
    have hswr := hbl.size
    by_cases hlt : k < l.length
    · have hcell : wr.cell? ⟨b, off + k, none⟩ = some (.int .i64 l[k]) := (hbl.cell (p := ⟨b, off + k, none⟩) hb).trans (HC.out k hlt)
      have hsn := encAll_snoc l k hlt
      have hen := encAll_take l k
      have HT := Hid.mk' (toRune_any l[k])
      have hr : 0 ≤ toRune l[k] ∧ toRune l[k] ≤ 1114111 := by unfold toRune; split <;> omega
      have HA := Hid.mk' (Tryd.utf8_AppendRune_plain w.heap.size u3 _ _ (toRune l[k]) (by omega) (by omega) wr ho (by omega) hswr)
      rw [← byteCells_encodeRune, toRune_enc, byteCells_length] at HA
      generalize toRune l[k] = r at *
      have HSN : Hid (∀ (w2 : World) v', w2.ownsRow w.heap.size 5 1 v' ((encAll (l.take k)).length + (encodeRune l[k]).length) (byteCells (encAll (l.take k)) ++ byteCells (encodeRune l[k])) → w2.ownsRow w.heap.size 5 1 v' (encAll (l.take (k + 1))).length (byteCells (encAll (l.take (k + 1))))) := fun w2 v' h => by
        rw [hsn]
        have e : byteCells (encAll (l.take k) ++ encodeRune l[k]) = byteCells (encAll (l.take k)) ++ byteCells (encodeRune l[k]) := by simp [byteCells]
        rw [List.length_append, e]
        exact h
      have HOW := Hid.mk' (OwnR.of ho).lt
      clear ho hbl hsn hen
      go_wp2_with fail
      refine (HT.out wr).mono ?_
      rintro e w1 ⟨rfl, hw1⟩
      subst hw1
      go_wp2_with fail
      refine HA.out.mono ?_
      rintro e w2 ⟨v', rfl, ho2, o, hgr⟩
      have HB2 : Hid (Below w.heap.size w w2) := (HB.out.alloc hswr _).grown hgr (by simp; omega) (fun k hk => (HOW.out k hk).1)
      have HO2 := Hid.mk' (HSN.out w2 v' ho2)
      clear ho2 hgr HA HSN
      go_wp2
      go_roundw
      case rel => exact ⟨k + 1, by omega, by go_num, HO2.out, HB2.out⟩
      case measure => simp [RowKit.intOf]; omega
    · obtain rfl : k = l.length := by omega
      rw [List.take_length] at ho
      have hstr := run_str (OwnR.of ho)
      clear ho hbl
      go_wp2
      go_ret
      exact ⟨rfl, HB.out⟩


theorem encAll_one (c : Int) : encAll [c] = encodeRune c := by simp [encAll]
end Go.Proofs.YtneiiinheimglaaDoor.B.E
