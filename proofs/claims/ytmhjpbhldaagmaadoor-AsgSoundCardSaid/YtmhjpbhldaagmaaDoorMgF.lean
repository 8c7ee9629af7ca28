/- Joined texts: UnitsRem, UnitsK. -/
import Derived.Test.YtmhjpbhldaagmaaDoorUnitsS
import Derived.Test.YtmhjpbhldaagmaaDoorMgR
/- asg.remaining: the first literal of a clause that is not false. -/
namespace Go.Proofs.YtmhjpbhldaagmaaDoor
open Go.RowKit
set_option linter.unusedVariables false

theorem zero_bool (w : World) : (zeroValue 4).run Tryd.prog w = .ok (.bool false) w := by kernel_rfl
theorem zero_ints (w : World) : (zeroValue 23).run Tryd.prog w = .ok (.slice none 0 0) w := by kernel_rfl
def remL (Hf : Int → Bool) (c : List Int) : Int := ((c.find? (fun x => !Hf (-x))).getD 0)
theorem remL_hit {Hf : Int → Bool} {c : List Int} {k : Nat} (h : k < c.length) (hb : ∀ j, j < k → Hf (-(c.getD j 0)) = true) (hk : Hf (-(c.getD k 0)) = false) : remL Hf c = c.getD k 0 := by
  unfold remL
  have : c.find? (fun x => !Hf (-x)) = some (c.getD k 0) := by
    rw [List.find?_eq_some_iff_getElem]
    refine ⟨by simpa using hk, k, h, by simp [List.getD, h], fun j hj => ?_⟩
    have := hb j hj
    simp [List.getD, show j < c.length by omega] at this
    simp [this]
  rw [this]; rfl
theorem remL_none {Hf : Int → Bool} {c : List Int} (hb : ∀ j, j < c.length → Hf (-(c.getD j 0)) = true) : remL Hf c = 0 := by
  unfold remL
  have : c.find? (fun x => !Hf (-x)) = none := by
    rw [List.find?_eq_none]
    intro x hx
    obtain ⟨j, hj, e⟩ := List.getElem_of_mem hx
    have := hb j hj
    simp [List.getD, hj, e] at this
    simp [this]
  rw [this]; rfl

set_option maxHeartbeats 1600000 in
set_option maxRecDepth 100000 in
theorem remaining_any (n : Nat) (w : World) (a : Option Addr) (cap : Nat) (vw : Value) (nh ng : Nat) (Hf : Int → Bool) (G : Int → List Nat) (left wait : List Int) (f : List (List Int)) (i : Nat)
    (s : PS n w (.slice a f.length cap) vw nh ng Hf G left wait) (HR : IsRows w (.slice a f.length cap) f) (hi : i < f.length) (hlit : ∀ x ∈ f.getD i [], litB x = true) :
    Calls Tryd.prog 72 #[.pointer (some ⟨n + 3, 0, none⟩), .int .i64 i] w fun e w' => e = .returned (.int .i64 (remL Hf (f.getD i []))) ∧ w = w' := by
  obtain ⟨b, off, u, rfl, hbk, hu, HU⟩ := HR.at hi
  have hfl := HR.shape
  obtain ⟨c0, c1, c2, c3, c4⟩ := s.cells
  have HS := Lib.hid s
  have HL := Lib.hid hlit
  have hfl2 : f.length ≤ 17592186044416 := by obtain ⟨_, _, _, h⟩ := HR.shape; exact h
  clear s hlit c2 c3 c4 HR hfl
  generalize f.getD i [] = c at *
  obtain ⟨ad, cap2, rfl, _, _, hl, h64, b2, off2, ha, hc⟩ := HU
  have HC := Lib.hid hc
  clear hc
  go_enter Tryd.func72, Tryd.ntmps72
  go_wp2
  go_loop [15] (fun si => ∃ k : Nat, k ≤ c.length ∧ si = .int .i64 k ∧ ∀ j, j < k → Hf (-(c.getD j 0)) = true) (fun si => c.length - (intOf si).toNat)
  case atStart => exact ⟨0, Nat.zero_le _, rfl, fun j h => by omega⟩
  case round =>
    obtain ⟨k, hk, rfl, hall⟩ := hrel
    by_cases hlt : k < c.length
    · obtain ⟨rfl, hb2⟩ := ha (by intro h; simp [h] at hlt)
      have hy := HC.out k hlt
      obtain ⟨y0, y1, y2⟩ := litB_bd (HL.out _ (getD_mem hlt))
      by_cases hh : Hf (-(c.getD k 0)) = true
      · have HN : Hid (∀ j, j < k + 1 → Hf (-(c.getD j 0)) = true) := fun j hj => by
          by_cases e : j = k
          · rw [e]; exact hh
          · exact hall j (by omega)
        clear hall
        generalize c.getD k 0 = y at *
        go_wp2_with (at_lookup; refine wpList_lookB rfl _ _ 111 rfl 3 4 Tryd.underlying3 Tryd.underlying4 Tryd.underlying111 (zero_bool _) rfl HS.out.hm (-y) rfl (i64w (by omega) (by omega)) ?_; rw [hh])
        go_round
        case rel => exact ⟨k + 1, by omega, by go_num, HN.out⟩
        case measure => simp [intOf]; omega
      · have hh' : Hf (-(c.getD k 0)) = false := by simpa using hh
        have HN := Lib.hid (remL_hit hlt hall hh')
        clear hall hh
        generalize c.getD k 0 = y at *
        go_wp2_with (at_lookup; refine wpList_lookB rfl _ _ 111 rfl 3 4 Tryd.underlying3 Tryd.underlying4 Tryd.underlying111 (zero_bool _) rfl HS.out.hm (-y) rfl (i64w (by omega) (by omega)) ?_; rw [hh'])
        go_ret
        exact ⟨ret_int HN.out.symm, rfl⟩
    · have HN := Lib.hid (remL_none (Hf := Hf) (c := c) (fun j hj => hall j (by omega)))
      clear hall
      go_wp2
      go_ret
      exact ⟨ret_int HN.out.symm, rfl⟩

end Go.Proofs.YtmhjpbhldaagmaaDoor

/- Blocks of steps stay while the state of unit propagation turns. -/
namespace Go.Proofs.YtmhjpbhldaagmaaDoor
open Go.RowKit
set_option linter.unusedVariables false

/-- Every block of steps is as it was. -/
def KeepT (w w' : World) : Prop := ∀ (g : Nat) (cur : Array Value) (fz : Nat × Nat), w.heap[g]? = some (.cells cur 34 fz) → w'.heap[g]? = some (.cells cur 34 fz)
theorem KeepT.refl (w : World) : KeepT w w := fun _ _ _ h => h
theorem KeepT.trans {a b c : World} (h : KeepT a b) (k : KeepT b c) : KeepT a c := fun g cur fz e => k g cur fz (h g cur fz e)
theorem KeepT.of_kept {S : Nat → Prop} {w w' : World} (k : Kept S w w') (hS : ∀ g, S g → ∀ cur fz, w.heap[g]? ≠ some (.cells cur 34 fz)) : KeepT w w' := fun g cur fz e => by
  rw [k.block g (Array.getElem?_eq_some_iff.1 e).1 (fun h => hS g h cur fz e)]
  exact e
theorem KeepT.alloc (w : World) (o : Obj) : KeepT w (w.alloc o) := KeepT.of_kept (Kept.alloc (fun _ => False) w o) (fun _ h => h.elim)
theorem KeepT.quiet {w w' : World} (q : Quiet w w') : KeepT w w' := KeepT.of_kept (Kept.quiet (fun _ => False) q) (fun _ h => h.elim)
/-- A row of ints is no block of steps. -/
theorem Own.noT {w : World} {B : Nat} {v : Value} {xs : List Int} (h : Own w B v xs) : ∀ g, v.ownBlock = some g → ∀ cur fz, w.heap[g]? ≠ some (.cells cur 34 fz) := by
  intro g hg cur fz e
  rcases h.2 with ⟨rfl, h2⟩ | ⟨g1, cap, cur1, rfl, _, hg1, _⟩
  · cases hg
  · have : g1 = g := by simpa [Value.ownBlock] using hg
    subst this
    rw [hg1] at e
    simp only [Option.some.injEq, Obj.cells.injEq] at e
    exact absurd e.2.1 (by decide)
theorem Fld.noT {w : World} {pb po : Nat} {cs : Array Value} {v : Value} (h : Fld w pb po cs 115 v) : ∀ cur fz, w.heap[pb]? ≠ some (.cells cur 34 fz) := by
  intro cur fz e
  rw [h.1] at e
  simp only [Option.some.injEq, Obj.cells.injEq] at e
  exact absurd e.2.1 (by decide)
theorem MapB.noT {P : Program} {K E : TypeId} {w : World} {b n : Nat} {h : Int → Bool} (m : MapB P K E w b n h) : ∀ cur fz, w.heap[b]? ≠ some (.cells cur 34 fz) := by
  intro cur fz e
  obtain ⟨D, ⟨es, clock, hb, _⟩, _⟩ := m
  rw [hb] at e
  cases e
theorem FldNow.keepT {w w' : World} {B pb po : Nat} {cs : Array Value} {v v' : Value} {l m : List Int} (h : FldNow w B pb po cs 115 v v' m w') (hO : Own w B v l) (hF : Fld w pb po cs 115 v) : KeepT w w' :=
  KeepT.of_kept h.2.2.2 fun g hg cur fz e => by
    rcases hg with hg | hg
    · exact hO.noT g hg cur fz e
    · subst hg; exact hF.noT cur fz e

end Go.Proofs.YtmhjpbhldaagmaaDoor
