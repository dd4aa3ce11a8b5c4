/-
  What each letter of the table does; no program, no condition.
-/
import Derived.Test.YtneiiinheimglaaDoorBPlain
namespace Go.Proofs.YtneiiinheimglaaDoor.B
open Go.Lib Go.Proofs.YtneiiinheimglaaDoor
theorem does_46 (p : Ps) (c : Int) : does p c 46 = (p, []) := rfl
theorem does_88 (p : Ps) (c : Int) : does p c 88 = (p0, [gone]) := rfl
theorem does_68 (p : Ps) (c : Int) : does p c 68 = (p0, [gone]) := rfl
theorem does_69a (p : Ps) (c : Int) (h : p.st = 0) : does p c 69 = (at' 1, []) := by
  show (at' 1, if p.st = 0 then [] else [gone]) = _
  rw [if_pos h]
theorem does_69b (p : Ps) (c : Int) (h : ¬ p.st = 0) : does p c 69 = (at' 1, [gone]) := by
  show (at' 1, if p.st = 0 then [] else [gone]) = _
  rw [if_neg h]
theorem does_67 (p : Ps) (c : Int) : does p c 67 = (p, [⟨2, c, 0, [], [], []⟩]) := rfl
theorem does_80 (p : Ps) (c : Int) : does p c 80 = (p, [⟨1, c, 0, [], [], []⟩]) := rfl
theorem does_73 (p : Ps) (c : Int) : does p c 73 = (⟨if p.st = 1 then 2 else 5, p.mark, [sg c], p.args, p.text⟩, []) := rfl
theorem does_73a (p : Ps) (c : Int) (h : p.st = 1) : does p c 73 = (⟨2, p.mark, [sg c], p.args, p.text⟩, []) := by
  show ((⟨if p.st = 1 then 2 else 5, p.mark, [sg c], p.args, p.text⟩ : Ps), _) = _
  rw [if_pos h]
theorem does_73b (p : Ps) (c : Int) (h : ¬ p.st = 1) : does p c 73 = (⟨5, p.mark, [sg c], p.args, p.text⟩, []) := by
  show ((⟨if p.st = 1 then 2 else 5, p.mark, [sg c], p.args, p.text⟩ : Ps), _) = _
  rw [if_neg h]
theorem does_74a (p : Ps) (c : Int) (h : p.inter.length < 3) : does p c 74 = (⟨p.st, p.mark, p.inter ++ [sg c], p.args, p.text⟩, []) := by
  show (if p.inter.length < 3 then (⟨p.st, p.mark, p.inter ++ [sg c], p.args, p.text⟩ : Ps) else p, _) = _
  rw [if_pos h]
theorem does_74b (p : Ps) (c : Int) (h : ¬ p.inter.length < 3) : does p c 74 = (p, []) := by
  show (if p.inter.length < 3 then (⟨p.st, p.mark, p.inter ++ [sg c], p.args, p.text⟩ : Ps) else p, _) = _
  rw [if_neg h]
theorem does_65a (p : Ps) (c : Int) (h : p.args.length < 100) : does p c 65 = (⟨4, p.mark, p.inter, p.args ++ [sg c], p.text⟩, []) := by
  show ((⟨4, p.mark, p.inter, if p.args.length < 100 then p.args ++ [sg c] else p.args, p.text⟩ : Ps), _) = _
  rw [if_pos h]
theorem does_65b (p : Ps) (c : Int) (h : ¬ p.args.length < 100) : does p c 65 = (⟨4, p.mark, p.inter, p.args, p.text⟩, []) := by
  show ((⟨4, p.mark, p.inter, if p.args.length < 100 then p.args ++ [sg c] else p.args, p.text⟩ : Ps), _) = _
  rw [if_neg h]
theorem does_77 (p : Ps) (c : Int) : does p c 77 = (⟨4, c, [], [], []⟩, []) := rfl
theorem does_71 (p : Ps) (c : Int) : does p c 71 = (at' 6, []) := rfl
theorem does_83 (p : Ps) (c : Int) : does p c 83 = (at' 3, []) := rfl
theorem does_79 (p : Ps) (c : Int) : does p c 79 = (at' 7, []) := rfl
theorem does_84 (p : Ps) (c : Int) : does p c 84 = (at' 9, []) := rfl
theorem does_90 (p : Ps) (c : Int) : does p c 90 = (⟨p.st + 1, p.mark, p.inter, p.args, p.text⟩, []) := rfl
theorem does_87a (p : Ps) (c : Int) (h : p.text.length + (encodeRune c).length ≤ 256) : does p c 87 = (⟨p.st, p.mark, p.inter, p.args, p.text ++ encodeRune c⟩, []) := by
  show (if p.text.length + (encodeRune c).length ≤ 256 then (⟨p.st, p.mark, p.inter, p.args, p.text ++ encodeRune c⟩ : Ps) else p, _) = _
  rw [if_pos h]
theorem does_87b (p : Ps) (c : Int) (h : ¬ p.text.length + (encodeRune c).length ≤ 256) : does p c 87 = (p, []) := by
  show (if p.text.length + (encodeRune c).length ≤ 256 then (⟨p.st, p.mark, p.inter, p.args, p.text ++ encodeRune c⟩ : Ps) else p, _) = _
  rw [if_neg h]
theorem does_89a (p : Ps) (c : Int) (h : 8 < p.st) : does p c 89 = (p0, [gone]) := by
  show (p0, [if 8 < p.st then gone else ⟨5, 0, 0, [], [], p.text⟩]) = _
  rw [if_pos h]
theorem does_89b (p : Ps) (c : Int) (h : ¬ 8 < p.st) : does p c 89 = (p0, [⟨5, 0, 0, [], [], p.text⟩]) := by
  show (p0, [if 8 < p.st then gone else ⟨5, 0, 0, [], [], p.text⟩]) = _
  rw [if_neg h]
theorem does_70 (p : Ps) (c : Int) : does p c 70 = (p0, [final p c]) := rfl
end Go.Proofs.YtneiiinheimglaaDoor.B
