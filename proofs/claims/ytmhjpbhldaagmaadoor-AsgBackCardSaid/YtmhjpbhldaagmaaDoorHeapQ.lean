/- heap.Push and heap.Pop over asg.waiting. -/
import Derived.Test.YtmhjpbhldaagmaaDoorHeapO
namespace Go.Proofs.YtmhjpbhldaagmaaDoor
open Go.RowKit
set_option linter.unusedVariables false

theorem inN_mem (l : List Int) (x : Int) : inN l l.length x ↔ x ∈ l := by
  constructor
  · rintro ⟨k, hk, e⟩; rw [← e]; simp [List.getD, hk]
  · intro h
    obtain ⟨k, hk, e⟩ := List.getElem_of_mem h
    exact ⟨k, hk, by simp [List.getD, hk, e]⟩
theorem FldNow.next {w w1 w2 : World} {B pb po : Nat} {cs : Array Value} {T : TypeId} {v v1 : Value} {m m2 : List Int} {g : Nat} (h : FldNow w B pb po cs T v v1 m w1) (hpb : pb < w.heap.size) (hg : v1.ownBlock = some g) (hne : g ≠ pb) (ho : Own w2 B v1 m2) (hk : Kept (fun k => k = g) w1 w2) : FldNow w B pb po cs T v v1 m2 w2 := by
  obtain ⟨h1, h2, h3, h4⟩ := h
  refine ⟨ho, h2.kept hk (fun e => hne e.symm), h3, h4.next hk fun i hi e => ?_⟩
  subst e
  rcases h3 with h | ⟨g', h, hge⟩
  · exact Or.inl (by rw [← h, hg])
  · rw [hg] at h
    have : i = g' := by simpa using h
    omega

/-- What a push onto the heap leaves. -/
def HPush (w : World) (B pb po : Nat) (cs : Array Value) (T : TypeId) (v : Value) (l : List Int) (x : Int) (e : Ending) (w' : World) : Prop :=
  ∃ v' m, e = .returned (.tuple #[]) ∧ FldNow w B pb po cs T v v' m w' ∧ hp m m.length ∧ m.length = l.length + 1 ∧ ∀ y, y ∈ m ↔ y = x ∨ y ∈ l

set_option maxHeartbeats 1600000 in
set_option maxRecDepth 100000 in
theorem hpush_any (v : Value) (l : List Int) (x : Int) (B : Nat) (pb po : Nat) (cs : Array Value) (T : TypeId) (w : World) (H : Own w B v l) (hF : Fld w pb po cs T v) (hl : l.length < 1000000) (hB : B ≤ w.heap.size) (hne : v.ownBlock ≠ some pb) (hh : hp l l.length) :
    Calls Tryd.prog 69 #[.iface 117 (.pointer (some ⟨pb, po, none⟩)), .iface 3 (.int .i64 x)] w (HPush w B pb po cs T v l x) := by
  have hpb := hF.lt
  have HC := Lib.hid (wpush_any v l x B pb po cs T w H hF (by omega) hB hne)
  have HH := Lib.hid hh
  have HNE := Lib.hid hne
  clear H hF hB hne hh
  have hm1 := fun n => m_push n ⟨pb, po, none⟩ w
  go_enter Tryd.func69, Tryd.ntmps69
  go_wp2_with fail
  refine HC.out.mono ?_
  rintro e w1 ⟨v1, rfl, hnow⟩
  have hown := hnow.1
  have el : (l ++ [x]).length = l.length + 1 := by simp
  obtain ⟨g1, cap1, rfl, hB1, hg1⟩ := hown.at (by omega)
  have hne1 : g1 ≠ pb := by
    rcases hnow.2.2.1 with h | ⟨g', h, hge⟩
    · exact fun e => HNE.out (by rw [← h, e]; rfl)
    · simp [Value.ownBlock] at h; omega
  have hml := m_len hnow.2.1.cell
  have HN := Lib.hid hnow
  have HW := Lib.hid (wlen_any _ (l ++ [x]) B w1 hown)
  have HUP := Lib.hid (up_any g1 cap1 ⟨pb, po, none⟩ (l ++ [x]) B l.length w1 hown hnow.2.1.cell (fun e => hne1 e.symm) (by omega) (by omega) (by rw [el]; exact hp_push x HH.out))
  clear hown hnow
  rw [el] at hml
  go_wp2_with fail
  refine ((by have := HW.out; rw [el] at this; exact this : Calls _ _ _ _ _)).mono ?_
  rintro e w2 ⟨rfl, rfl⟩
  have hcast : ((l.length + 1 : Nat) : Int) - 1 = (l.length : Int) := by omega
  go_wp2_with fail
  refine ((by have := HUP.out; exact this : Calls _ _ _ _ _)).mono ?_
  rintro e w3 ⟨m, rfl, hown3, hlen3, hhp, hin, hk3⟩
  have hres : FldNow w B pb po cs T v (.slice (some ⟨g1, 0, none⟩) (l ++ [x]).length cap1) m w3 := HN.out.next hpb rfl hne1 hown3 hk3
  have HR : Hid (HPush w B pb po cs T v l x (.returned (.tuple #[])) w3) := ⟨_, m, rfl, hres, by rw [hlen3]; exact hhp, by rw [hlen3, el], fun y => by
    rw [← inN_mem, hlen3, hin, inN_mem]
    simp [or_comm]⟩
  clear hres hhp hin hown3
  go_wp2
  go_end0
  exact HR.out

end Go.Proofs.YtmhjpbhldaagmaaDoor
