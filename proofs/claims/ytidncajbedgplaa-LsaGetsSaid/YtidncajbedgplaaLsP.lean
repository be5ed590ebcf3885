/- Plain words for descriptions: a head, a link, and what may be of them. No program, no conditions. -/
import Derived.Test.YtidncajbedgplaaN
namespace Go.Proofs.Ytidncajbedgplaa

/-- Is n from a to b? -/
def inB (n a b : Int) : Bool := decide (a ≤ n) && decide (n ≤ b)
theorem inB_iff (n a b : Int) : inB n a b = true ↔ a ≤ n ∧ n ≤ b := by simp [inB]

/-- A head. -/
structure Hd where
  age : Int
  kind : Int
  id : Int
  adv : Int
  seq : Int
  sum : Int
  long : Int
/-- A link. -/
structure Lk where
  kind : Int
  id : Int
  data : Int
  cost : Int

/-- May a head be? -/
def headB (h : Hd) : Bool := inB h.age 0 60 && (inB h.kind 1 2 && (inB h.adv 1 15 && inB h.seq (-2147483647) 2147483647))
/-- May a link be? -/
def linkB (k : Lk) : Bool := inB k.kind 2 3 && (inB k.id 0 63 && (inB k.data 0 63 && inB k.cost 1 100))
/-- Do members rise, from above a on, up to 15? -/
def riseB : Int → List Int → Bool
  | _, [] => true
  | a, m :: l => inB m (a + 1) 15 && riseB m l
/-- Is a description of a router right, its head apart? -/
def routerB (h : Hd) (L : List Lk) (M : List Int) : Bool := decide (h.id = h.adv) && (decide (M.length = 0) && (decide (L.length ≤ 4) && L.all linkB))
/-- Is a description of a network right, its head apart? -/
def networkB (h : Hd) (L : List Lk) (M : List Int) : Bool := inB h.id 0 63 && (decide (L.length = 0) && (decide (0 < M.length) && riseB 0 M))
/-- Is a description right? -/
def rightB (h : Hd) (L : List Lk) (M : List Int) : Bool := headB h && (if h.kind = 1 then routerB h L M else networkB h L M)
end Go.Proofs.Ytidncajbedgplaa
