/-
  The plain side of layer 3: commands, their bytes, a script taken apart; no condition.
-/
namespace Go.Proofs.YtlgfdemggkiojaaDoor

/-- A command. -/
structure Cm where
  kind : Int
  fr : Int
  to : Int
  at_ : Int
  thr : Int
  sch : Int
  op : Int
  key : Int
  val : Int
deriving DecidableEq

def byt (l : List UInt8) (i : Nat) : Int := ((l.getD i 0).toNat : Int)
theorem byt_bd (l : List UInt8) (i : Nat) : 0 ≤ byt l i ∧ byt l i ≤ 255 := by
  unfold byt
  have := UInt8.toNat_lt (l.getD i 0)
  omega
def kindOf (n : Int) : Int := if n < 128 then 1 else if n ≤ 135 then n - 126 else 0
def sizeOf' (k : Int) : Nat := if k = 3 then 2 else if k = 4 then 2 else if k = 5 then 2 else if k = 6 then 2 else if k = 9 then 5 else 1
def bareC (k : Int) : Cm := ⟨k, 0, 0, 0, 0, 0, 0, 0, 0⟩
def noneC (n : Int) : Cm := ⟨0, 0, n, 0, 0, 0, 0, 0, 0⟩
/-- What bytes of a kind say. -/
def readC (k : Int) (b : List UInt8) : Cm :=
  if k = 1 then ⟨k, 0, 0, byt b 0, 0, 0, 0, 0, 0⟩
  else if k = 3 then ⟨k, 0, 0, 0, byt b 1, 0, 0, 0, 0⟩
  else if k = 4 then ⟨k, 0, 0, 0, 0, byt b 1, 0, 0, 0⟩
  else if k = 5 then ⟨k, 0, 0, byt b 1, 0, 0, 0, 0, 0⟩
  else if k = 6 then ⟨k, 0, 0, byt b 1, 0, 0, 0, 0, 0⟩
  else if k = 9 then ⟨k, 0, 0, 0, byt b 1, 0, byt b 2, byt b 3, byt b 4⟩
  else bareC k
/-- Are its numbers such as may be? -/
def inB (c : Cm) : Bool :=
  if c.kind = 1 then decide (0 ≤ c.at_ ∧ c.at_ < 128)
  else if c.kind = 3 then decide (0 ≤ c.thr ∧ c.thr < 16)
  else if c.kind = 4 then decide (c.sch = 1 ∨ c.sch = 2 ∨ c.sch = 4)
  else if c.kind = 5 then decide (0 ≤ c.at_ ∧ c.at_ < 32)
  else if c.kind = 6 then decide (0 ≤ c.at_ ∧ c.at_ < 32)
  else if c.kind = 9 then decide ((0 ≤ c.thr ∧ c.thr < 16) ∧ c.op ≤ 7)
  else true
/-- How many bytes the first command has. -/
def dlen (b : List UInt8) : Nat := if b.length < sizeOf' (kindOf (byt b 0)) then b.length else sizeOf' (kindOf (byt b 0))
def Cm.till (c : Cm) (n : Int) : Cm := { c with to := n }
/-- The first command. -/
def dec (b : List UInt8) : Cm :=
  if b.length < sizeOf' (kindOf (byt b 0)) then noneC b.length
  else if inB (readC (kindOf (byt b 0)) b) = true then (readC (kindOf (byt b 0)) b).till (sizeOf' (kindOf (byt b 0)))
  else noneC (sizeOf' (kindOf (byt b 0)))
def Cm.shift (c : Cm) (o : Int) : Cm := { c with fr := c.fr + o, to := c.to + o }
def Cm.bare (c : Cm) : Cm := { c with fr := 0, to := 0 }

theorem sizeOf_bd (k : Int) : 1 ≤ sizeOf' k ∧ sizeOf' k ≤ 5 := by
  unfold sizeOf'
  repeat' split
  all_goals omega
theorem dlen_bd (b : List UInt8) (h : b ≠ []) : 1 ≤ dlen b ∧ dlen b ≤ 5 ∧ dlen b ≤ b.length := by
  have hs := sizeOf_bd (kindOf (byt b 0))
  have hl : 0 < b.length := List.length_pos_iff.2 h
  unfold dlen
  split <;> omega
theorem dec_to (b : List UInt8) : (dec b).to = (dlen b : Int) := by
  unfold dec dlen
  repeat' split
  all_goals rfl
theorem dec_fr (b : List UInt8) : (dec b).fr = 0 := by
  unfold dec Cm.till readC bareC noneC
  repeat' split
  all_goals rfl

/-- All commands, from a place on. -/
def parseFrom (o : Nat) (l : List UInt8) : List Cm :=
  if _h : l = [] then [] else (dec l).shift o :: parseFrom (o + dlen l) (l.drop (dlen l))
termination_by l.length
decreasing_by
  have := dlen_bd l _h
  rw [List.length_drop]
  omega
theorem parseFrom_nil (o : Nat) : parseFrom o [] = [] := by rw [parseFrom, dif_pos rfl]
theorem parseFrom_cons (o : Nat) (l : List UInt8) (h : l ≠ []) : parseFrom o l = (dec l).shift o :: parseFrom (o + dlen l) (l.drop (dlen l)) := by rw [parseFrom, dif_neg h]
/-- How many bytes count. -/
def most : Nat := 65536
theorem most_eq : most = 65536 := rfl
def parseC (l : List UInt8) : List Cm := parseFrom 0 (l.take most)
/-- The command at a place. -/
def nextC (l : List UInt8) (at_ : Int) : Option Cm :=
  if 0 ≤ at_ ∧ at_ < ((l.take most).length : Int) then some ((dec ((l.take most).drop at_.toNat)).shift at_) else none

theorem parseFrom_length (o : Nat) (l : List UInt8) : (parseFrom o l).length ≤ l.length := by
  by_cases h : l = []
  · rw [h, parseFrom_nil]; simp
  · have hd := dlen_bd l h
    have ih := parseFrom_length (o + dlen l) (l.drop (dlen l))
    rw [parseFrom_cons o l h]
    simp only [List.length_cons, List.length_drop] at ih ⊢
    omega
termination_by l.length
decreasing_by
  have := dlen_bd l h
  rw [List.length_drop]
  omega

theorem Cm.shift_shift (c : Cm) (a b : Int) : (c.shift a).shift b = c.shift (a + b) := by
  simp [Cm.shift, Int.add_assoc]
theorem Cm.bare_shift (c : Cm) (a : Int) : (c.shift a).bare = c.bare := rfl
theorem parseFrom_shift (o p : Nat) (l : List UInt8) : parseFrom (o + p) l = (parseFrom o l).map (·.shift p) := by
  by_cases h : l = []
  · rw [h, parseFrom_nil, parseFrom_nil]; rfl
  · have hd := dlen_bd l h
    have ih := parseFrom_shift (o + dlen l) p (l.drop (dlen l))
    rw [parseFrom_cons _ l h, parseFrom_cons o l h, List.map_cons, ← ih, Cm.shift_shift, show o + p + dlen l = o + dlen l + p by omega]
    simp
termination_by l.length
decreasing_by
  have := dlen_bd l h
  rw [List.length_drop]
  omega
end Go.Proofs.YtlgfdemggkiojaaDoor
