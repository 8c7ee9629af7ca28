/- Joined texts: HeapW, HeapM, HeapU, HeapD. -/
import Derived.Test.YtmhjpbhldaagmaaDoorMapsB
import Derived.Test.YtmhjpbhldaagmaaDoorMgD
import Derived.Test.YtmhjpbhldaagmaaDoorMgA
import Derived.RegionTactic
import Derived.ChangeAlike
import Derived.BigRegion
/- asg.waiting: Len, Less, Swap on the call's own row. -/
namespace Go.Proofs.YtmhjpbhldaagmaaDoor
open Go.RowKit
set_option linter.unusedVariables false

/-- Cells of an own row, as a value that owns something shows them. -/
theorem Own.at {w : World} {B : Nat} {v : Value} {xs : List Int} (h : Own w B v xs) (hne : 0 < xs.length) : ∃ g cap, v = .slice (some ⟨g, 0, none⟩) xs.length cap ∧ B ≤ g ∧ g < w.heap.size := by
  rcases h.2 with ⟨rfl, h2⟩ | ⟨g, cap, cur, rfl, hB, hg, rest⟩
  · omega
  · exact ⟨g, cap, rfl, hB, (Array.getElem?_eq_some_iff.1 hg).1⟩

set_option maxHeartbeats 400000 in
theorem wlen_any (v : Value) (l : List Int) (B : Nat) (w : World) (H : Own w B v l) :
    Calls Tryd.prog 70 #[v] w fun e w' => e = .returned (.int .i64 l.length) ∧ w = w' := by
  obtain ⟨a, cap, rfl⟩ : ∃ a cap, v = .slice a l.length cap := by
    rcases H.2 with ⟨rfl, h2⟩ | ⟨g, cap, cur, rfl, _⟩
    · exact ⟨none, 0, by rw [h2]⟩
    · exact ⟨_, _, rfl⟩
  go_enter Tryd.func70, Tryd.ntmps70
  go_wp2
  go_ret
  exact ⟨rfl, rfl⟩

set_option maxHeartbeats 400000 in
theorem wless_any (v : Value) (l : List Int) (B i j : Nat) (w : World) (H : Own w B v l) (hl : l.length ≤ 1000000) (hi : i < l.length) (hj : j < l.length) :
    Calls Tryd.prog 199 #[v, .int .i64 i, .int .i64 j] w fun e w' => e = .returned (.bool (decide (l.getD i 0 < l.getD j 0))) ∧ Quiet w w' := by
  obtain ⟨g, cap, rfl, hB, hg⟩ := H.at (by omega)
  have hci := H.cell i hi
  have hcj := H.cell j hj
  generalize l.getD i 0 = x at *
  generalize l.getD j 0 = y at *
  have HH := Lib.hid H
  clear H
  go_enter Tryd.func199, Tryd.ntmps199
  go_wp2_with fail
  go_quiet (fail)
  go_wp2
  go_ret
  exact ⟨rfl, ⟨_, rfl⟩⟩

/-- The world but for the count of draws. -/
def Same4 (w W : World) : Prop := w.heap = W.heap ∧ w.os = W.os ∧ w.output = W.output ∧ w.tape = W.tape

set_option maxHeartbeats 1600000 in
theorem wswap_two (g cap : Nat) (l : List Int) (B i j : Nat) (w : World) (H : Own w B (.slice (some ⟨g, 0, none⟩) l.length cap) l) (hl : l.length ≤ 1000000) (hi : i < l.length) (hj : j < l.length) (hne : i ≠ j) :
    Calls Tryd.prog 200 #[.slice (some ⟨g, 0, none⟩) l.length cap, .int .i64 i, .int .i64 j] w fun e w' => e = .returned (.tuple #[]) ∧ Same4 w' ((w.setCell ⟨g, i, none⟩ (.int .i64 (l.getD j 0))).setCell ⟨g, j, none⟩ (.int .i64 (l.getD i 0))) := by
  have hci := H.cell i hi
  have hcj := H.cell j hj
  have hfi := H.frozen i
  have hfj := H.frozen j
  generalize l.getD i 0 = x at *
  generalize l.getD j 0 = y at *
  have HH := Lib.hid H
  clear H
  go_enter Tryd.func200, Tryd.ntmps200
  go_wp2
  go_region
  all_goals (go_end0; exact ⟨rfl, rfl, rfl, rfl, rfl⟩)
set_option maxHeartbeats 1600000 in
theorem wswap_one (g cap : Nat) (l : List Int) (B i : Nat) (w : World) (H : Own w B (.slice (some ⟨g, 0, none⟩) l.length cap) l) (hl : l.length ≤ 1000000) (hi : i < l.length) :
    Calls Tryd.prog 200 #[.slice (some ⟨g, 0, none⟩) l.length cap, .int .i64 i, .int .i64 i] w fun e w' => e = .returned (.tuple #[]) ∧ Same4 w' ((w.setCell ⟨g, i, none⟩ (.int .i64 (l.getD i 0))).setCell ⟨g, i, none⟩ (.int .i64 (l.getD i 0))) := by
  have hci := H.cell i hi
  have hfi := H.frozen i
  generalize l.getD i 0 = x at *
  have HH := Lib.hid H
  clear H
  go_enter Tryd.func200, Tryd.ntmps200
  go_wp2
  go_region
  all_goals (go_end0; exact ⟨rfl, rfl, rfl, rfl, rfl⟩)

theorem Own.heapEq {w w' : World} {B : Nat} {v : Value} {xs : List Int} (h : Own w B v xs) (e : w'.heap = w.heap) : Own w' B v xs := by
  refine ⟨h.1, ?_⟩
  rcases h.2 with hn | ⟨g, cap, cur, hv, hB, hg, rest⟩
  · exact .inl hn
  · exact .inr ⟨g, cap, cur, hv, hB, by rw [e]; exact hg, rest⟩
/-- Two of them have changed places; nothing else has turned. -/
def Swapped (w : World) (B g cap : Nat) (l m : List Int) (e : Ending) (w' : World) : Prop := e = .returned (.tuple #[]) ∧ Own w' B (.slice (some ⟨g, 0, none⟩) l.length cap) m ∧ Kept (fun k => k = g) w w'
theorem wswap_any (g cap : Nat) (l : List Int) (B i j : Nat) (w : World) (H : Own w B (.slice (some ⟨g, 0, none⟩) l.length cap) l) (hl : l.length ≤ 1000000) (hi : i < l.length) (hj : j < l.length) :
    Calls Tryd.prog 200 #[.slice (some ⟨g, 0, none⟩) l.length cap, .int .i64 i, .int .i64 j] w (Swapped w B g cap l (swp l i j)) := by
  have done : ∀ (w' : World), Same4 w' ((w.setCell ⟨g, i, none⟩ (.int .i64 (l.getD j 0))).setCell ⟨g, j, none⟩ (.int .i64 (l.getD i 0))) → Own w' B (.slice (some ⟨g, 0, none⟩) l.length cap) (swp l i j) ∧ Kept (fun k => k = g) w w' := by
    rintro w' ⟨h1, h2, h3, h4⟩
    have k := (Kept.setCell w ⟨g, i, none⟩ (.int .i64 (l.getD j 0))).trans (Kept.setCell _ ⟨g, j, none⟩ (.int .i64 (l.getD i 0)))
    exact ⟨((H.store i (l.getD j 0)).store j (l.getD i 0)).heapEq h1, ⟨h2.trans k.os, h4.trans k.tape, h3.trans k.output, by rw [h1]; exact k.size, fun b hb hS => by rw [h1]; exact k.block b hb hS⟩⟩
  by_cases e : i = j
  · subst e
    exact (wswap_one g cap l B i w H hl hi).mono fun e w' h => ⟨h.1, done w' h.2⟩
  · exact (wswap_two g cap l B i j w H hl hi hj e).mono fun e w' h => ⟨h.1, done w' h.2⟩

end Go.Proofs.YtmhjpbhldaagmaaDoor

/- The methods of *asg.waiting through an interface. -/
namespace Go.Proofs.YtmhjpbhldaagmaaDoor
open Go.RowKit
set_option linter.unusedVariables false

theorem run_load_of {P : Program} {w : World} {a : Addr} {v : Value} (h : w.cell? a = some v) : (load a).run P w = .ok v w := by
  simp [go_sem, h]
theorem ti (name : String) (f : Nat) (h : (Tryd.prog.info? 117).any (fun m => match m.methods.find? (·.name == name) with | some r => r.path.isEmpty && (match r.func with | some (g, b) => g == f && !b | none => false) | none => false) = true) (w : World) :
    ∃ m r, (typeInfo 117).run Tryd.prog w = .ok m w ∧ m.methods.find? (·.name == name) = some r ∧ r.path = #[] ∧ r.func = some (f, false) := by
  cases hi : Tryd.prog.info? 117 with
  | none => rw [hi] at h; cases h
  | some m =>
    rw [hi] at h
    simp only [Option.any_some] at h
    cases hr : m.methods.find? (·.name == name) with
    | none => rw [hr] at h; cases h
    | some r =>
      rw [hr] at h
      simp only at h
      refine ⟨m, r, by simp [typeInfo, hi, go_sem], hr, ?_⟩
      cases hf : r.func with
      | none => rw [hf] at h; simp at h
      | some p =>
        obtain ⟨g, b⟩ := p
        rw [hf] at h
        simp at h
        exact ⟨h.1, by rw [h.2.1, h.2.2]⟩
theorem loadVarW {w : World} {a : Addr} {v : Value} (h : w.cell? a = some v) : (loadVar 113 a).run Tryd.prog w = .ok v w := by
  have e : ∀ w, (isAgg 113).run Tryd.prog w = .ok false w := fun w => by kernel_rfl
  unfold loadVar
  simp only [Sem.run_bind, e, Result.andThen_ok]
  exact run_load_of h
theorem m_val (name : String) (f : Nat) (h : (Tryd.prog.info? 117).any (fun m => match m.methods.find? (·.name == name) with | some r => r.path.isEmpty && (match r.func with | some (g, b) => g == f && !b | none => false) | none => false) = true) {w : World} {a : Addr} {v : Value} (hc : w.cell? a = some v) (n : Nat) :
    (method (n + 1) 117 (.pointer (some a)) name).run Tryd.prog w = .ok (f, v) w := by
  obtain ⟨m, r, h1, h2, h3, h4⟩ := ti name f h w
  have hu : (underlying 117).run Tryd.prog w = .ok (.pointer 113) w := run_underlying Tryd.underlying117 w
  have hk : ∀ nm : String, (Builtin.ssaWrapNilChk_ #[117] 117 #[.pointer (some a), strVal "", strVal nm]).run Tryd.prog w = .ok (.pointer (some a)) w := fun _ => rfl
  unfold method
  simp only [Sem.run_bind, h1, Result.andThen_ok, h2, h3, h4, follow, receiverAt, Sem.run_pure, hu, Place.get, asAddr]
  have e : (#[] : Array FieldStep).isEmpty = true := rfl
  simp only [e, if_true, Sem.run_bind, Sem.run_pure, Result.andThen_ok, hk, loadVarW hc]
theorem m_less {w : World} {a : Addr} {v : Value} (hc : w.cell? a = some v) (n : Nat) : (method (n + 1) 117 (.pointer (some a)) "Less").run Tryd.prog w = .ok (199, v) w := m_val "Less" 199 (by kernel_rfl) hc n
theorem m_swap {w : World} {a : Addr} {v : Value} (hc : w.cell? a = some v) (n : Nat) : (method (n + 1) 117 (.pointer (some a)) "Swap").run Tryd.prog w = .ok (200, v) w := m_val "Swap" 200 (by kernel_rfl) hc n
theorem m_len {w : World} {a : Addr} {v : Value} (hc : w.cell? a = some v) (n : Nat) : (method (n + 1) 117 (.pointer (some a)) "Len").run Tryd.prog w = .ok (70, v) w := m_val "Len" 70 (by kernel_rfl) hc n
theorem m_push (n : Nat) (a : Addr) (w : World) : (method (n + 1) 117 (.pointer (some a)) "Push").run Tryd.prog w = .ok (202, .pointer (some a)) w := by kernel_rfl
theorem m_pop (n : Nat) (a : Addr) (w : World) : (method (n + 1) 117 (.pointer (some a)) "Pop").run Tryd.prog w = .ok (201, .pointer (some a)) w := by kernel_rfl

end Go.Proofs.YtmhjpbhldaagmaaDoor

/- container/heap.up over asg.waiting. -/
namespace Go.Proofs.YtmhjpbhldaagmaaDoor
open Go.RowKit
set_option linter.unusedVariables false

theorem Kept.quiet (S : Nat → Prop) {w w' : World} (h : Quiet w w') : Kept S w w' := by
  obtain ⟨m, rfl⟩ := h
  exact ⟨rfl, rfl, rfl, Nat.le_refl _, fun _ _ _ => rfl⟩
/-- What the heap has become. -/
def Heaped (w : World) (B g cap : Nat) (l : List Int) (e : Ending) (w' : World) : Prop :=
  ∃ m, e = .returned (.tuple #[]) ∧ Own w' B (.slice (some ⟨g, 0, none⟩) l.length cap) m ∧ m.length = l.length ∧ hp m l.length ∧ (∀ x, inN m l.length x ↔ inN l l.length x) ∧ Kept (fun k => k = g) w w'

set_option maxRecDepth 100000 in
set_option maxHeartbeats 1600000 in
theorem up_any (g cap : Nat) (a : Addr) (l : List Int) (B j : Nat) (w : World) (H : Own w B (.slice (some ⟨g, 0, none⟩) l.length cap) l) (ha : w.cell? a = some (.slice (some ⟨g, 0, none⟩) l.length cap)) (hab : a.block ≠ g) (hl : l.length ≤ 1000000) (hj : j < l.length) (hu : hpU l l.length j) :
    Calls Tryd.prog 108 #[.iface 117 (.pointer (some a)), .int .i64 j] w (Heaped w B g cap l) := by
  go_enter Tryd.func108, Tryd.ntmps108
  go_wp2
  go_loopw [1] (fun sj wr => ∃ (k : Nat) (m : List Int), k < l.length ∧ sj = .int .i64 k ∧ m.length = l.length ∧ Own wr B (.slice (some ⟨g, 0, none⟩) l.length cap) m ∧ hpU m l.length k ∧ (∀ x, inN m l.length x ↔ inN l l.length x) ∧ Kept (fun k => k = g) w wr) (fun sj wr => (intOf sj).toNat)
  case atStart => exact ⟨j, l, hj, rfl, rfl, H, hu, fun x => Iff.rfl, Kept.refl _ _⟩
  case round =>
    obtain ⟨k, m, hk, rfl, hm, hown, hup, hin, hkept⟩ := hrel
    have hca : wr.cell? a = some (.slice (some ⟨g, 0, none⟩) l.length cap) := (hkept.cell (World.block_lt_of_cell? w _ ha) hab).trans ha
    by_cases h0 : k = 0
    · subst h0
      go_wp2
      go_end0
      exact ⟨m, rfl, hown, hm, up_top hup, hin, hkept⟩
    · have h1 : (1 : Int) ≤ (k : Int) := by omega
      have hp : ((k : Int) - 1) / 2 = (((k - 1) / 2 : Nat) : Int) := by omega
      have hne : ((((k - 1) / 2 : Nat) : Int) == (k : Int)) = false := by rw [beq_eq_false_iff_ne]; omega
      have hii : (k - 1) / 2 < l.length := by omega
      generalize (k - 1) / 2 = i at *
      have hml := m_less hca
      have hlt := wless_any _ m B k i wr hown (by omega) (by omega) (by omega)
      have hsw := fun (W : World) (hq : Quiet wr W) => wswap_any g cap m B i k W (by rw [hm]; exact hown.quiet hq) (by omega) (by omega) (by omega)
      rw [hm] at hsw
      have HS := Lib.hid hsw
      have HU := Lib.hid hup
      have HI := Lib.hid hin
      have HM := Lib.hid hm
      have HN : Hid (i = (k - 1) / 2) := by show _ = _; omega
      clear hsw hup hin hm
      by_cases hd : m.getD k 0 < m.getD i 0
      · rw [show decide (m.getD k 0 < m.getD i 0) = true from by simpa using hd] at hlt
        have HD := Lib.hid hd
        have HL := Lib.hid hlt
        clear hd hlt
        go_wp2_with (first | (go_at_call 199; refine HL.out.mono ?_; rintro e w1 ⟨rfl, hq⟩; have hmw := m_swap ((hq.cell a).trans hca)) | (go_at_call 200; refine (HS.out _ (by assumption)).mono ?_; rintro e w2 ⟨rfl, hown2, hk2⟩))
        go_roundw
        case rel =>
          have hup2 := up_swap HU.out (by omega) hk (by rw [HM.out]; exact Nat.le_refl _) (by rw [← HN.out]; exact HD.out)
          rw [← HN.out] at hup2
          refine ⟨i, swp m i k, hii, rfl, by rw [swp_len, HM.out], by rw [← HM.out]; exact hown2, hup2, fun x => ?_, hkept.trans ((Kept.quiet _ hq).trans hk2)⟩
          rw [swp_in _ _ _ _ _ hii hk (by rw [HM.out]; exact Nat.le_refl _)]
          exact HI.out x
        case measure => simp [intOf]; omega
      · rw [show decide (m.getD k 0 < m.getD i 0) = false from by simpa using hd] at hlt
        have HD := Lib.hid hd
        have HL := Lib.hid hlt
        clear hd hlt
        go_wp2_with (go_at_call 199; refine HL.out.mono ?_; rintro e w1 ⟨rfl, hq⟩)
        go_end0
        exact ⟨m, rfl, hown.quiet hq, HM.out, up_stop HU.out (by rw [← HN.out]; have := HD.out; omega), HI.out, hkept.trans (Kept.quiet _ hq)⟩

end Go.Proofs.YtmhjpbhldaagmaaDoor

/- container/heap.down over asg.waiting. -/
namespace Go.Proofs.YtmhjpbhldaagmaaDoor
open Go.RowKit
set_option linter.unusedVariables false

/-- What the first n of the heap have become. -/
def HeapedN (w : World) (B g cap : Nat) (l : List Int) (n : Nat) (e : Ending) (w' : World) : Prop :=
  ∃ b m, e = .returned (.bool b) ∧ Own w' B (.slice (some ⟨g, 0, none⟩) l.length cap) m ∧ m.length = l.length ∧ hp m n ∧ (∀ x, inN m n x ↔ inN l n x) ∧ (∀ k, n ≤ k → m.getD k 0 = l.getD k 0) ∧ Kept (fun k => k = g) w w'

set_option maxRecDepth 100000 in
set_option maxHeartbeats 3200000 in
theorem down_any (g cap : Nat) (a : Addr) (l : List Int) (B i0 n : Nat) (w : World) (H : Own w B (.slice (some ⟨g, 0, none⟩) l.length cap) l) (ha : w.cell? a = some (.slice (some ⟨g, 0, none⟩) l.length cap)) (hab : a.block ≠ g) (hl : l.length ≤ 1000000) (hn : n ≤ l.length) (hi0 : i0 ≤ n) (hd : hpD l n i0) :
    Calls Tryd.prog 109 #[.iface 117 (.pointer (some a)), .int .i64 i0, .int .i64 n] w (HeapedN w B g cap l n) := by
  go_enter Tryd.func109, Tryd.ntmps109
  go_wp2
  go_loopw [7] (fun si wr => ∃ (i : Nat) (m : List Int), i ≤ n ∧ si = .int .i64 i ∧ m.length = l.length ∧ Own wr B (.slice (some ⟨g, 0, none⟩) l.length cap) m ∧ hpD m n i ∧ (∀ x, inN m n x ↔ inN l n x) ∧ (∀ k, n ≤ k → m.getD k 0 = l.getD k 0) ∧ Kept (fun k => k = g) w wr) (fun si wr => n - (intOf si).toNat)
  case atStart => exact ⟨i0, l, hi0, rfl, rfl, H, hd, fun x => Iff.rfl, fun _ _ => rfl, Kept.refl _ _⟩
  case round =>
    obtain ⟨i, m, hi, rfl, hm, hown, hdn, hin, hrest, hkept⟩ := hrel
    have hca : wr.cell? a = some (.slice (some ⟨g, 0, none⟩) l.length cap) := (hkept.cell (World.block_lt_of_cell? w _ ha) hab).trans ha
    obtain ⟨p, hp⟩ : ∃ p : Nat, p = 2 * i + 1 := ⟨_, rfl⟩
    obtain ⟨q, hq⟩ : ∃ q : Nat, q = p + 1 := ⟨_, rfl⟩
    have hp1 : 2 * (i : Int) + 1 = (p : Int) := by omega
    have hq1 : (p : Int) + 1 = (q : Int) := by omega
    have hle := fun (W : World) (hqq : Quiet wr W) (x y : Nat) (hx : x < n) (hy : y < n) => wless_any _ m B x y W (hown.quiet hqq) (by omega) (by omega) (by omega)
    have hsw := fun (W : World) (hqq : Quiet wr W) (y : Nat) (hx : i < n) (hy : y < n) => wswap_any g cap m B i y W (by rw [hm]; exact hown.quiet hqq) (by omega) (by omega) (by omega)
    rw [hm] at hsw
    have hle2 := fun (W : World) (hqq : Quiet wr W) (x y : Nat) (hx : x < n) (hy : y < n) (b : Bool) (hb : decide (m.getD x 0 < m.getD y 0) = b) => hb ▸ hle W hqq x y hx hy
    have HL := Lib.hid hle2
    clear hle2
    have HS := Lib.hid hsw
    have HDN := Lib.hid hdn
    have HI := Lib.hid hin
    have HR := Lib.hid hrest
    have HM := Lib.hid hm
    have HP := Lib.hid hp
    have HQ := Lib.hid hq
    clear hle hsw hdn hin hrest hm
    by_cases h1 : p < n
    · have h1' : ¬ n ≤ p := by omega
      have hin2 : i < n := by omega
      clear hp hq
      -- the rest, for the child c that is the lesser one
      have done : ∀ (c : Nat) (W : World), (c = p ∨ c = q) → c < n → (∀ k, 0 < k → k < n → (k - 1) / 2 = i → m.getD c 0 ≤ m.getD k 0) → m.getD c 0 < m.getD i 0 → Quiet wr W → ∀ e w2, Swapped W B g cap m (swp m i c) e w2 →
          ∃ m', m'.length = l.length ∧ Own w2 B (.slice (some ⟨g, 0, none⟩) l.length cap) m' ∧ hpD m' n c ∧ (∀ x, inN m' n x ↔ inN l n x) ∧ (∀ k, n ≤ k → m'.getD k 0 = l.getD k 0) ∧ Kept (fun k => k = g) w w2 := by
        rintro c W hc hcn hmin hlt hqq e w2 ⟨_, hown2, hk2⟩
        have e1 := HP.out
        have e2 := HQ.out
        have e3 := HM.out
        rw [e3] at hown2
        refine ⟨swp m i c, by rw [swp_len, e3], hown2, down_swap HDN.out (by omega) hcn (by omega) (by omega) hlt hmin, fun x => ?_, fun k hk => ?_, hkept.trans ((Kept.quiet _ hqq).trans hk2)⟩
        · rw [swp_in _ _ _ _ _ hin2 hcn (by omega)]; exact HI.out x
        · rw [swp_at _ _ _ _ (by omega) (by omega), if_neg (by omega), if_neg (by omega)]; exact HR.out k hk
      have stop : ∀ (c : Nat), (∀ k, 0 < k → k < n → (k - 1) / 2 = i → m.getD c 0 ≤ m.getD k 0) → ¬ m.getD c 0 < m.getD i 0 → hp m n := fun c hmin hlt =>
        down_stop HDN.out fun k k0 kn ki => by have := hmin k k0 kn ki; omega
      have HDONE := Lib.hid done
      have HSTOP := Lib.hid stop
      clear done stop
      have hml := m_less hca
      by_cases h2 : q < n
      · have h2' : ¬ n ≤ q := by omega
        have hpq : ∀ k, 0 < k → k < n → (k - 1) / 2 = i → k = p ∨ k = q := fun k k0 kn ki => by have := HP.out; have := HQ.out; omega
        have HPQ := Lib.hid hpq
        clear hpq
        by_cases hqp : m.getD q 0 < m.getD p 0
        · have HQP := Lib.hid (decide_eq_true hqp)
          have HMIN : Hid (∀ k, 0 < k → k < n → (k - 1) / 2 = i → m.getD q 0 ≤ m.getD k 0) := fun k k0 kn ki => by
            rcases HPQ.out k k0 kn ki with e | e <;> subst e <;> omega
          clear hqp
          go_wp2_with fail
          refine (HL.out _ (Quiet.refl wr) q p h2 h1 true HQP.out).mono ?_
          rintro e w1 ⟨rfl, hq1⟩
          have hml1 := m_less ((hq1.cell a).trans hca)
          by_cases hlt : m.getD q 0 < m.getD i 0
          · have HLT := Lib.hid (decide_eq_true hlt)
            clear hlt
            go_wp2_with fail
            refine (HL.out _ hq1 q i (by omega) hin2 true HLT.out).mono ?_
            rintro e w2 ⟨rfl, hqB⟩
            have hq2 := hq1.trans hqB
            have hmw := m_swap ((hq2.cell a).trans hca)
            go_wp2_with fail
            refine (HS.out _ hq2 q hin2 (by omega)).mono ?_
            rintro e w9 hsw
            have HW := Lib.hid (HDONE.out q _ (by omega) (by omega) HMIN.out (of_decide_eq_true HLT.out) hq2 e w9 hsw)
            obtain ⟨rfl, _⟩ := hsw
            go_wp2
            go_roundw
            case rel =>
              obtain ⟨m', a1, a2, a3, a4, a5, a6⟩ := HW.out
              exact ⟨q, m', by omega, rfl, a1, a2, a3, a4, a5, a6⟩
            case measure => simp [intOf]; have := HP.out; have := HQ.out; omega
          · have HLT := Lib.hid hlt
            have HLF := Lib.hid (decide_eq_false hlt)
            clear hlt
            go_wp2_with fail
            refine (HL.out _ hq1 q i (by omega) hin2 false HLF.out).mono ?_
            rintro e w2 ⟨rfl, hqB⟩
            have hq2 := hq1.trans hqB
            go_wp2
            go_ret
            exact ⟨_, m, rfl, hown.quiet hq2, HM.out, HSTOP.out q HMIN.out HLT.out, HI.out, HR.out, hkept.trans (Kept.quiet _ hq2)⟩
        · have HQP := Lib.hid (decide_eq_false hqp)
          have HMIN : Hid (∀ k, 0 < k → k < n → (k - 1) / 2 = i → m.getD p 0 ≤ m.getD k 0) := fun k k0 kn ki => by
            rcases HPQ.out k k0 kn ki with e | e <;> subst e <;> omega
          clear hqp
          go_wp2_with fail
          refine (HL.out _ (Quiet.refl wr) q p h2 h1 false HQP.out).mono ?_
          rintro e w1 ⟨rfl, hq1⟩
          have hml1 := m_less ((hq1.cell a).trans hca)
          by_cases hlt : m.getD p 0 < m.getD i 0
          · have HLT := Lib.hid (decide_eq_true hlt)
            clear hlt
            go_wp2_with fail
            refine (HL.out _ hq1 p i (by omega) hin2 true HLT.out).mono ?_
            rintro e w2 ⟨rfl, hqB⟩
            have hq2 := hq1.trans hqB
            have hmw := m_swap ((hq2.cell a).trans hca)
            go_wp2_with fail
            refine (HS.out _ hq2 p hin2 (by omega)).mono ?_
            rintro e w9 hsw
            have HW := Lib.hid (HDONE.out p _ (by omega) (by omega) HMIN.out (of_decide_eq_true HLT.out) hq2 e w9 hsw)
            obtain ⟨rfl, _⟩ := hsw
            go_wp2
            go_roundw
            case rel =>
              obtain ⟨m', a1, a2, a3, a4, a5, a6⟩ := HW.out
              exact ⟨p, m', by omega, rfl, a1, a2, a3, a4, a5, a6⟩
            case measure => simp [intOf]; have := HP.out; have := HQ.out; omega
          · have HLT := Lib.hid hlt
            have HLF := Lib.hid (decide_eq_false hlt)
            clear hlt
            go_wp2_with fail
            refine (HL.out _ hq1 p i (by omega) hin2 false HLF.out).mono ?_
            rintro e w2 ⟨rfl, hqB⟩
            have hq2 := hq1.trans hqB
            go_wp2
            go_ret
            exact ⟨_, m, rfl, hown.quiet hq2, HM.out, HSTOP.out p HMIN.out HLT.out, HI.out, HR.out, hkept.trans (Kept.quiet _ hq2)⟩
      · have h2' : n ≤ q := by omega
        have HMIN : Hid (∀ k, 0 < k → k < n → (k - 1) / 2 = i → m.getD p 0 ≤ m.getD k 0) := fun k k0 kn ki => by
          have e1 := HP.out
          have e2 := HQ.out
          have : k = p := by omega
          rw [this]; exact Int.le_refl _
        have hq1 := Quiet.refl wr
        by_cases hlt : m.getD p 0 < m.getD i 0
        · have HLT := Lib.hid (decide_eq_true hlt)
          clear hlt
          go_wp2_with fail
          refine (HL.out _ hq1 p i (by omega) hin2 true HLT.out).mono ?_
          rintro e w2 ⟨rfl, hqB⟩
          have hq2 := hq1.trans hqB
          have hmw := m_swap ((hq2.cell a).trans hca)
          go_wp2_with fail
          refine (HS.out _ hq2 p hin2 (by omega)).mono ?_
          rintro e w9 hsw
          have HW := Lib.hid (HDONE.out p _ (by omega) (by omega) HMIN.out (of_decide_eq_true HLT.out) hq2 e w9 hsw)
          obtain ⟨rfl, _⟩ := hsw
          go_wp2
          go_roundw
          case rel =>
            obtain ⟨m', a1, a2, a3, a4, a5, a6⟩ := HW.out
            exact ⟨p, m', by omega, rfl, a1, a2, a3, a4, a5, a6⟩
          case measure => simp [intOf]; have := HP.out; have := HQ.out; omega
        · have HLT := Lib.hid hlt
          have HLF := Lib.hid (decide_eq_false hlt)
          clear hlt
          go_wp2_with fail
          refine (HL.out _ hq1 p i (by omega) hin2 false HLF.out).mono ?_
          rintro e w2 ⟨rfl, hqB⟩
          have hq2 := hq1.trans hqB
          go_wp2
          go_ret
          exact ⟨_, m, rfl, hown.quiet hq2, HM.out, HSTOP.out p HMIN.out HLT.out, HI.out, HR.out, hkept.trans (Kept.quiet _ hq2)⟩
    · have h1' : n ≤ p := by omega
      clear hp hq
      go_wp2
      go_ret
      exact ⟨_, m, rfl, hown, HM.out, down_stop HDN.out (fun k k0 kn ki => by have := HP.out; omega), HI.out, HR.out, hkept⟩

end Go.Proofs.YtmhjpbhldaagmaaDoor
