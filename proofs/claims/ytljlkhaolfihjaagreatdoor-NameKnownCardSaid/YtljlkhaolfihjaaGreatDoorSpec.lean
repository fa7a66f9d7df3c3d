/- The answers of the layer of names as functions on lists of bytes: letters, keys, the order. Nothing of a program. -/
namespace Go.Proofs.YtljlkhaolfihjaaGreatDoor.Sp

abbrev S := List UInt8

def latin (c : UInt8) : Bool := decide (97 ≤ c.toNat ∧ c.toNat ≤ 122)

def stands (c : UInt8) : S :=
  if c.toNat = 67 then [99, 104] else if c.toNat = 74 then [106, 117] else if c.toNat = 88 then [115, 104] else if c.toNat = 89 then [106, 97]
  else if c.toNat = 72 ∨ c.toNat = 81 ∨ c.toNat = 87 then [] else if 65 ≤ c.toNat ∧ c.toNat ≤ 90 then [UInt8.ofNat (c.toNat - 65 + 97)] else []

/-- How many of some letters are Latin ones, and how many of the other alphabet. -/
def own (s : S) : Nat := (s.filter latin).length
def other (s : S) : Nat := (s.filter fun c => !(stands c).isEmpty).length

def check (s : S) : Int :=
  if s.length = 0 then 7 else if 6 < s.length then 10 else if own s < s.length ∧ other s < s.length then 2 else 0

def key (s : S) : S := if s.head?.any latin then s else s.flatMap stands

/-- The key of a name, and nothing of what is none. -/
def keyR (s : S) : S := if check s = 0 then key s else []

end Go.Proofs.YtljlkhaolfihjaaGreatDoor.Sp
