/- What the rows' condition on the listed variable gives the walks; the door's own heap meets it. -/
import Derived.Test.YtmhjpbhldaagmaaDoorMgY
import Derived.Test.YtmhjpbhldaagmaaDoorMgN
namespace Go.Proofs.YtmhjpbhldaagmaaDoor
open Go.ChangeShapes Go.WideShapes Go.ChangeAt Go.RowKit
set_option linter.unusedVariables false
variable {H : Type}

abbrev laidZ : List (String × DataW Unit) := [("skolem/skolemlaw02.same", Rows.laid_skolem_skolemlaw02_same)]
theorem gSamez : Tryd.prog.globalNamed "skolem/skolemlaw02.same" = some 0 := by kernel_rfl
theorem tSamez : (Tryd.prog.globals[0]?).map (·.type) = some 36 := by kernel_rfl
set_option maxRecDepth 100000 in
theorem of_laidz {W : World} (h : laidMetH Tryd.prog laidZ W) : SameAz W := by
  obtain ⟨g, t, cs, fuel, p, hg, ht, hv, hd⟩ := h.funcs (n := "skolem/skolemlaw02.same") (d := .iface "func" (.lit (.string [115, 107, 111, 108, 101, 109, 47, 115, 107, 111, 108, 101, 109, 114, 101, 102, 48, 49, 46, 83, 97, 109, 101]))) (by exact List.Mem.head _)
  obtain rfl := Option.some.inj (gSamez.symm.trans hg)
  obtain rfl := Option.some.inj (tSamez.symm.trans ht)
  obtain ⟨v, hcs⟩ := one_of_func Tryd.underlying36 hd
  rw [hcs] at hd
  obtain rfl := func_of_trod (f0 := 68) Tryd.underlying36 (by kernel_rfl) hd
  have := World.var?_cell hg hv 0
  rw [Array.eq_one_of_toList hcs] at this
  unfold SameAz
  simpa using this

set_option maxRecDepth 100000 in
theorem door_metz (os : Os) (args : Array Value) : laidMetH Tryd.prog laidZ ((World.doorLaid Tryd.prog 28 os).forCall (fun _ _ => 0) ⟨#[], args, []⟩).memory :=
  laidMetH_of_parts3 (fuel := 8) (laidMet_of_run' 8 (by kernel_rfl) (by kernel_rfl)) (by kernel_rfl) (by kernel_rfl)

theorem bytes_intz : Tryd.prog.bytesOf 3 = 8 := by kernel_rfl
/-- A slice of integers that came in, of a size that a machine reaches. -/
theorem ints_sized {enc : TypeId × Value → H} {W : World} {base : Nat} {sp : Nat → Bool} {held : Bool} {fuel : Nat} {a : Option Addr} {len cap : Nat} {x : DataW H × List MemPlace}
    (h : DataW.trod enc Tryd.prog W base sp held fuel 23 [.slice a len cap] = some x) (hw : ∀ n ∈ x.1.weights Tryd.prog 23, n ≤ 140737488351232) : ∃ l, l.length = len ∧ IsInts W (.slice a len cap) l := by
  refine (ints_of h).2 ?_
  rcases open_ints Tryd.underlying23 Tryd.underlying3 (by kernel_rfl) h with ⟨hcs, _⟩ | ⟨y, l, c, zs, hcs, _, hl, hm, hz, hx, _, _⟩
  · simp at hcs
    omega
  · simp at hcs
    obtain ⟨rfl, rfl, rfl⟩ := hcs
    have hz' : len ≤ zs.length := by rw [hz]; split <;> omega
    have := hw (zs.length * 8) (by
      rw [hx]
      simp only [DataW.weights, Tryd.underlying23, bytes_intz]
      have e : ((lits (H := H) .i64 (zs.take len)).length + (lits (H := H) .i64 (zs.drop len)).length) = zs.length := by
        simp only [lits, List.length_map, List.length_take, List.length_drop]
        omega
      rw [e]
      exact List.mem_cons_self)
    omega

end Go.Proofs.YtmhjpbhldaagmaaDoor
