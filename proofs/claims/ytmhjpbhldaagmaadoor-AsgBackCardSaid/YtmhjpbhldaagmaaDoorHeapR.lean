/- heap.Pop over asg.waiting. -/
import Derived.Test.YtmhjpbhldaagmaaDoorHeapQ
namespace Go.Proofs.YtmhjpbhldaagmaaDoor
open Go.RowKit
set_option linter.unusedVariables false

/-- What a pop off the heap leaves: x was the least one. -/
def HPop (w : World) (B pb po : Nat) (cs : Array Value) (T : TypeId) (v : Value) (l : List Int) (e : Ending) (w' : World) : Prop :=
  ∃ v' m, e = .returned (.iface 3 (.int .i64 (l.getD 0 0))) ∧ FldNow w B pb po cs T v v' m w' ∧ hp m m.length ∧ m.length + 1 = l.length ∧ (∀ y, y ∈ l ↔ y = l.getD 0 0 ∨ y ∈ m) ∧ ∀ y ∈ l, l.getD 0 0 ≤ y

theorem hp_take {l : List Int} {n : Nat} (h : hp l n) (hn : n ≤ l.length) : hp (l.take n) (l.take n).length := by
  have e : (l.take n).length = n := by simp; omega
  have g : ∀ k, k < n → (l.take n).getD k 0 = l.getD k 0 := fun k hk => by simp [List.getD, hk]
  rw [e]
  intro k k0 hk
  rw [g _ (by omega), g _ hk]
  exact h k k0 hk
theorem inN_take {l : List Int} {n : Nat} (hn : n ≤ l.length) (y : Int) : inN l n y ↔ y ∈ l.take n := by
  have e : (l.take n).length = n := by simp; omega
  have g : ∀ k, k < n → (l.take n).getD k 0 = l.getD k 0 := fun k hk => by simp [List.getD, hk]
  rw [← inN_mem, e]
  constructor
  · rintro ⟨k, hk, h⟩; exact ⟨k, hk, by rw [g k hk]; exact h⟩
  · rintro ⟨k, hk, h⟩; exact ⟨k, hk, by rw [← g k hk]; exact h⟩

set_option maxHeartbeats 1600000 in
set_option maxRecDepth 100000 in
theorem hpop_n (g cap : Nat) (l : List Int) (n : Nat) (B : Nat) (pb po : Nat) (cs : Array Value) (T : TypeId) (w : World) (H : Own w B (.slice (some ⟨g, 0, none⟩) (n + 1) cap) l) (hF : Fld w pb po cs T (.slice (some ⟨g, 0, none⟩) (n + 1) cap)) (hn : l.length = n + 1) (hl : n < 1000000) (hne1 : g ≠ pb) (hh : hp l (n + 1)) :
    Calls Tryd.prog 71 #[.iface 117 (.pointer (some ⟨pb, po, none⟩))] w (HPop w B pb po cs T (.slice (some ⟨g, 0, none⟩) (n + 1) cap) l) := by
  have hpb := hF.lt
  have hml := m_len hF.cell
  have hms := m_swap hF.cell
  have HW : Hid (Calls Tryd.prog 70 #[.slice (some ⟨g, 0, none⟩) (n + 1) cap] w fun e w' => e = .returned (.int .i64 ((n + 1 : Nat) : Int)) ∧ w = w') := by
    have := wlen_any _ l B w H; rw [hn] at this; exact this
  have HSW : Hid (Calls Tryd.prog 200 #[.slice (some ⟨g, 0, none⟩) (n + 1) cap, .int .i64 0, .int .i64 n] w fun e w' => e = .returned (.tuple #[]) ∧ Own w' B (.slice (some ⟨g, 0, none⟩) (n + 1) cap) (swp l 0 n) ∧ Kept (fun k => k = g) w w') := by
    have := wswap_any g cap l B 0 n w (by rw [hn]; exact H) (by omega) (by omega) (by omega); unfold Swapped at this; rw [hn] at this; exact this
  have hsl : (swp l 0 n).length = n + 1 := by rw [swp_len]; exact hn
  have HD : Hid (∀ w2, Own w2 B (.slice (some ⟨g, 0, none⟩) (n + 1) cap) (swp l 0 n) → Fld w2 pb po cs T (.slice (some ⟨g, 0, none⟩) (n + 1) cap) → Calls Tryd.prog 109 #[.iface 117 (.pointer (some ⟨pb, po, none⟩)), .int .i64 0, .int .i64 n] w2 fun e w' =>
      ∃ b m, e = .returned (.bool b) ∧ Own w' B (.slice (some ⟨g, 0, none⟩) (n + 1) cap) m ∧ m.length = n + 1 ∧ hp m n ∧ (∀ x, inN m n x ↔ inN (swp l 0 n) n x) ∧ (∀ k, n ≤ k → m.getD k 0 = (swp l 0 n).getD k 0) ∧ Kept (fun k => k = g) w2 w') := by
    intro w2 ho hf
    have := down_any g cap ⟨pb, po, none⟩ (swp l 0 n) B 0 n w2 (by rw [hsl]; exact ho) (by rw [hsl]; exact hf.cell) (fun e => hne1 e.symm) (by omega) (by omega) (by omega) (hp_pop hh (by omega))
    unfold HeapedN at this; rw [hsl] at this; exact this
  have HR : Hid (∀ w2 w3 m, Kept (fun k => k = g) w w2 → Own w3 B (.slice (some ⟨g, 0, none⟩) (n + 1) cap) m → m.length = n + 1 → hp m n → (∀ x, inN m n x ↔ inN (swp l 0 n) n x) → (∀ k, n ≤ k → m.getD k 0 = (swp l 0 n).getD k 0) → Kept (fun k => k = g) w2 w3 →
      Calls Tryd.prog 201 #[.pointer (some ⟨pb, po, none⟩)] w3 fun e w4 => e = .returned (.iface 3 (.int .i64 (l.getD 0 0))) ∧ HPop w B pb po cs T (.slice (some ⟨g, 0, none⟩) (n + 1) cap) l e w4) := by
    intro w2 w3 m hk2 hown3 hlen3 hhp hin hrest hk3
    have hkk : Kept (fun k => k = g) w w3 := hk2.trans hk3
    have hF3 := hF.kept hkk (fun e => hne1 e.symm)
    have e2 : (swp l 0 n).getD n 0 = l.getD 0 0 := by rw [swp_at _ _ _ _ (by omega) (by omega), if_pos rfl]
    have hsp : m = m.take n ++ [l.getD 0 0] := by
      have := last_of hlen3
      rw [hrest n (Nat.le_refl _), e2] at this
      exact this
    have htl : (m.take n).length = n := by simp; omega
    have hmem : ∀ y, y ∈ l ↔ y = l.getD 0 0 ∨ y ∈ m.take n := fun y => by
      rw [← inN_take (by omega), hin]
      have e1 : inN l (n + 1) y ↔ inN (swp l 0 n) (n + 1) y := (swp_in l 0 n (n + 1) y (by omega) (by omega) (by omega)).symm
      rw [← inN_mem, hn, e1]
      constructor
      · rintro ⟨k, hk, e⟩
        by_cases h : k = n
        · subst h; exact Or.inl (by rw [← e, e2])
        · exact Or.inr ⟨k, by omega, e⟩
      · rintro (e | ⟨k, hk, e⟩)
        · exact ⟨n, by omega, by rw [e2, e]⟩
        · exact ⟨k, by omega, e⟩
    have hmin : ∀ y ∈ l, l.getD 0 0 ≤ y := fun y hy => by
      obtain ⟨k, hk, e⟩ := (inN_mem l y).2 hy
      rw [← e]
      exact hp_least hh k (by omega)
    have hc := wpop_any g cap (m.take n) (l.getD 0 0) B pb po cs T w3 (by rw [htl, ← hsp]; exact hown3) (by rw [htl]; exact hF3) (by omega) hne1
    refine hc.mono ?_
    rintro e w4 ⟨he, h1, h2, h3, h4⟩
    refine ⟨he, .slice (some ⟨g, 0, none⟩) (m.take n).length cap, m.take n, he, ⟨h1, h2, Or.inl rfl, ?_⟩, hp_take hhp (by omega), by omega, hmem, hmin⟩
    exact (hkk.mono fun k _ e => Or.inl (by rw [e]; rfl)).next h4 fun i _ e => by
      rcases e with e | e
      · exact Or.inl (by rw [← e]; rfl)
      · exact Or.inr e
  have HF := Lib.hid hF
  have hcast : ((n + 1 : Nat) : Int) - 1 = (n : Int) := by omega
  clear H hF hh hsl hn
  generalize l.getD 0 0 = x at *
  go_enter Tryd.func71, Tryd.ntmps71
  go_wp2_with fail
  refine HW.out.mono ?_
  rintro e w1 ⟨rfl, rfl⟩
  go_wp2_with fail
  refine HSW.out.mono ?_
  rintro e w2 ⟨rfl, hown2, hk2⟩
  go_wp2_with fail
  refine (HD.out w2 hown2 (HF.out.kept hk2 (fun e => hne1 e.symm))).mono ?_
  rintro e w3 ⟨b, m, rfl, hown3, hlen3, hhp, hin, hrest, hk3⟩
  have HP := Lib.hid (HR.out w2 w3 m hk2 hown3 hlen3 hhp hin hrest hk3)
  have hmp := fun k => m_pop k ⟨pb, po, none⟩ w3
  clear hown3 hlen3 hhp hin hrest hk3 hown2 hk2
  go_wp2_with fail
  refine HP.out.mono ?_
  rintro e w4 ⟨rfl, h4⟩
  have HQ := Lib.hid h4
  clear h4
  go_wp2
  go_ret
  exact HQ.out
theorem hpop_any (v : Value) (l : List Int) (n : Nat) (B : Nat) (pb po : Nat) (cs : Array Value) (T : TypeId) (w : World) (H : Own w B v l) (hF : Fld w pb po cs T v) (hn : l.length = n + 1) (hl : n < 1000000) (hne : v.ownBlock ≠ some pb) (hh : hp l l.length) :
    Calls Tryd.prog 71 #[.iface 117 (.pointer (some ⟨pb, po, none⟩))] w (HPop w B pb po cs T v l) := by
  obtain ⟨g, cap, rfl, hB1, hg1⟩ := H.at (by omega)
  rw [hn] at H hF hh ⊢
  exact hpop_n g cap l n B pb po cs T w H hF hn hl (fun e => hne (by rw [e]; rfl)) hh

end Go.Proofs.YtmhjpbhldaagmaaDoor
