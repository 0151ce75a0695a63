/-
  WHAT IS OF NO PROGRAM: are all ints of a list descriptors, from 0 to 63?
-/
namespace Go.Proofs.YthpinbngggcgcaaDoor

/-- Is it a descriptor? -/
def okI (z : Int) : Bool := decide (0 ≤ z) && decide (z < 64)
theorem okI_take (zs : List Int) (k : Nat) (hk : k < zs.length) : (zs.take (k + 1)).all okI = ((zs.take k).all okI && okI (zs[k]?.getD 0)) := by
  rw [List.take_add_one, List.getElem?_eq_getElem hk, List.all_append]
  simp

end Go.Proofs.YthpinbngggcgcaaDoor
