/-
  Plain functions, of no program: what the reader of package iac does with its bytes, as functions on lists; no condition.
-/
import Derived.Below
namespace Go.Proofs.YtmcoliblkkploaaDoor

structure Tk where
  kind : Int
  cmd : Int
  opt : Int
  data : List UInt8

structure RS where
  mode : Int
  cmd : Int
  opt : Int
  over : Bool
  words : List UInt8
  data : List UInt8
  toks : List Tk

def RS.flush (r : RS) : RS := if r.data = [] then r else { r with toks := r.toks ++ [⟨1, 0, 0, r.data⟩], data := [] }
def RS.tell (r : RS) (t : Tk) : RS := ⟨0, 0, 0, false, [], [], r.flush.toks ++ [t]⟩
def RS.putWord (r : RS) (b : UInt8) : RS := if r.over = true then r else if r.words.length = 4096 then { r with words := [], over := true } else { r with words := r.words ++ [b] }
def RS.takeByte (r : RS) (b : UInt8) : RS := if b.toNat = 255 then { r with mode := 1 } else { r with data := r.data ++ [b] }
def RS.takeCommand (r : RS) (b : UInt8) : RS :=
  if b.toNat = 255 then { r with mode := 0, data := r.data ++ [b] }
  else if b.toNat = 250 then { r with mode := 3 }
  else if 251 ≤ b.toNat then { r with mode := 2, cmd := b.toNat }
  else if 240 ≤ b.toNat then r.tell ⟨2, b.toNat, 0, []⟩
  else r.tell ⟨5, b.toNat, 0, []⟩
def RS.takeWord (r : RS) (b : UInt8) : RS := if b.toNat = 255 then { r with mode := 5 } else r.putWord b
def RS.takeWordsCommand (r : RS) (b : UInt8) : RS :=
  if b.toNat = 255 then { r with mode := 4 }.putWord b
  else if b.toNat ≠ 240 then r.tell ⟨5, b.toNat, r.opt, []⟩
  else if r.over = true then r.tell ⟨5, 250, r.opt, []⟩
  else r.tell ⟨4, 0, r.opt, r.words⟩
def RS.take (r : RS) (b : UInt8) : RS :=
  if r.mode = 0 then r.takeByte b
  else if r.mode = 1 then r.takeCommand b
  else if r.mode = 2 then r.tell ⟨3, r.cmd, b.toNat, []⟩
  else if r.mode = 3 then { r with mode := 4, opt := b.toNat }
  else if r.mode = 4 then r.takeWord b
  else if r.mode = 5 then r.takeWordsCommand b
  else r

/-- what the cells of a reader, and its rows, may be: room for another byte, and two tokens -/
def RS.fits (r : RS) : Prop := r.data.length ≤ 8388608 ∧ r.toks.length ≤ 33554432 ∧ r.words.length ≤ 4096

end Go.Proofs.YtmcoliblkkploaaDoor
