/- The reference's Norm and Join. -/
import Derived.Test.YtnedpngadfkmiaaDoorWith
namespace Go.Proofs.YtnedpngadfkmiaaDoor
open Go.RowKit
set_option linter.unusedVariables false

/-- What a call hands back that returns a list and an error number. -/
def RetPair (w : World) (r : List Int × Int) (e : Ending) (w' : World) : Prop := ∃ v, e = .returned (.tuple #[v, .int .i64 r.2]) ∧ IsInts w' v r.1 ∧ Below w.heap.size w w'

def sortI (l : List Int) : List Int := l.foldl insL []
def tautR (l : List Int) : List Int × Int := if mayB l then (l, 0) else ([], 10)
def normR (l : List Int) : List Int × Int := if 200000 < l.length ∨ ¬ (∀ x ∈ l, litB x = true) then ([], 2) else tautR (sortI l)
def joinR (a b : List Int) : List Int × Int := if mayB a && mayB b then tautR (b.foldl insL (sortI a)) else ([], 2)

theorem insL_len (l : List Int) (x : Int) : (insL l x).length ≤ l.length + 1 := by
  induction l with
  | nil => simp [insL]
  | cons y r ih =>
    unfold insL
    by_cases h : litLt y x
    · rw [if_pos h]; simp; omega
    · rw [if_neg h]; split <;> simp
theorem foldl_insL_len (l acc : List Int) : (l.foldl insL acc).length ≤ acc.length + l.length := by
  induction l generalizing acc with
  | nil => simp
  | cons y r ih => have := ih (insL acc y); have := insL_len acc y; simp; omega
theorem foldl_take {acc l : List Int} {k : Nat} (h : k < l.length) : (l.take (k + 1)).foldl insL acc = insL ((l.take k).foldl insL acc) (l.getD k 0) := by
  have e : l.take (k + 1) = l.take k ++ [l.getD k 0] := by rw [List.take_succ_eq_append_getElem h]; simp [List.getD, h]
  rw [e, List.foldl_append]; rfl

theorem ret_pair {v : Value} {a b : Int} (h : a = b) : Ending.returned (.tuple #[v, .int .i64 a]) = .returned (.tuple #[v, .int .i64 b]) := by rw [h]

theorem RetPair.mono {w w1 w' : World} {r : List Int × Int} {e : Ending} (h : RetPair w1 r e w') (hb : Below w.heap.size w w1) (hs : w.heap.size ≤ w1.heap.size) : RetPair w r e w' := by
  obtain ⟨v, h1, h2, h3⟩ := h
  exact ⟨v, h1, h2, hb.trans (h3.mono hs)⟩

set_option maxHeartbeats 400000 in
set_option maxRecDepth 100000 in
theorem rnorm_any (v : Value) (l : List Int) (w : World) (H : IsInts w v l) : Calls Tryd.prog 21 #[v] w (RetPair w (normR l)) := by
  have H0 := H
  obtain ⟨a, cap, rfl, _, _, hl, h64, b, off, ha, hc⟩ := H
  by_cases hbig : 200000 < l.length
  · have HF : Hid (normR l = ([], 2)) := by show _ = _; unfold normR; rw [if_pos (Or.inl hbig)]
    go_enter Tryd.func21, Tryd.ntmps21
    go_wp2
    go_ret2
    exact ⟨_, ret_pair (by rw [HF.out]), by rw [HF.out]; exact IsInts.nil _, Below.refl _ _⟩
  go_enter Tryd.func21, Tryd.ntmps21
  go_wp2
  go_loop [4] (fun i => ∃ k : Nat, k ≤ l.length ∧ i = .int .i64 k ∧ ∀ x ∈ l.take k, litB x = true) (fun i => l.length - (intOf i).toNat)
  case atStart => exact ⟨0, Nat.zero_le _, rfl, by simp⟩
  case round =>
    obtain ⟨k, hk, rfl, hi⟩ := hrel
    by_cases hlt : k < l.length
    · obtain ⟨rfl, hb⟩ := ha (by intro h; simp [h] at hlt)
      have hy := hc k hlt
      have hy1 := (h64.at k hlt).1
      have hy2 := (h64.at k hlt).2
      have hmem := getD_mem hlt
      have HI := Lib.hid hi
      have HC := Lib.hid hc
      have htk : l.take (k + 1) = l.take k ++ [l.getD k 0] := by rw [List.take_succ_eq_append_getElem hlt]; simp [List.getD, hlt]
      by_cases hp : litB (l.getD k 0) = true
      · have HN : Hid (∀ x ∈ l.take (k + 1), litB x = true) := by
          show ∀ x ∈ l.take (k + 1), litB x = true
          rw [htk]
          intro x hx
          rcases List.mem_append.1 hx with hx | hx
          · exact hi x hx
          · rw [List.mem_singleton] at hx; rw [hx]; exact hp
        clear hi hc htk
        generalize l.getD k 0 = y at *
        go_wp2_with (go_at_call 89; refine (rlit_any _ _ (by omega) (by omega)).mono ?_; rintro e w' ⟨rfl, rfl⟩)
        go_round
        case rel => exact ⟨k + 1, by omega, by go_num, HN.out⟩
        case measure => simp [intOf]; omega
      · have HF : Hid (normR l = ([], 2)) := by show _ = _; unfold normR; rw [if_pos (Or.inr (fun h => hp (h _ hmem)))]
        have hp' : litB (l.getD k 0) = false := by simpa using hp
        clear hi hc htk hp hmem
        generalize l.getD k 0 = y at *
        go_wp2_with (go_at_call 89; refine (rlit_any _ _ (by omega) (by omega)).mono ?_; rintro e w' ⟨rfl, rfl⟩)
        go_ret2
        exact ⟨_, ret_pair (by rw [HF.out]), by rw [HF.out]; exact IsInts.nil _, Below.refl _ _⟩
    · have HI : Hid (∀ x ∈ l, litB x = true) := by
        show ∀ x ∈ l, litB x = true
        rw [List.take_of_length_le (by omega)] at hi
        exact hi
      have HF : Hid (normR l = tautR (sortI l)) := by show _ = _; unfold normR; rw [if_neg (by intro h; rcases h with h | h; exact hbig h; exact h HI.out)]
      clear hi
      go_wp2
      go_loopw [5, 6] (fun out i wr => ∃ j : Nat, j ≤ l.length ∧ i = .int .i64 j ∧ IsInts wr out ((l.take j).foldl insL []) ∧ Below w.heap.size w wr) (fun _ i _ => l.length - (intOf i).toNat)
      case atStart => exact ⟨0, Nat.zero_le _, rfl, IsInts.nil _, Below.refl _ _⟩
      case round =>
        obtain ⟨j, hj, rfl, hout, hbel⟩ := hrel
        by_cases hlt2 : j < l.length
        · obtain ⟨rfl, hb⟩ := ha (by intro h; simp [h] at hlt2)
          have hy := (hbel.cell (p := ⟨b, off + j, none⟩) hb).trans (hc j hlt2)
          have hy1 := (h64.at j hlt2).1
          have hy2 := (h64.at j hlt2).2
          have HT := Lib.hid (foldl_take (acc := []) hlt2)
          have hlen := foldl_insL_len (l.take j) []
          rw [List.length_take] at hlen
          simp only [List.length_nil] at hlen
          have HC := Lib.hid hc
          clear hc
          generalize l.getD j 0 = y at *
          go_wp2_with (go_at_call 90; refine (rwith_any _ _ y _ hout (by omega) (by omega) (by omega)).mono ?_; rintro e w' ⟨v', rfl, hout', hbel'⟩)
          go_roundw
          case rel => exact ⟨j + 1, by omega, by go_num, by rw [HT.out]; exact hout', hbel.trans (hbel'.mono hbel.size)⟩
          case measure => simp [intOf]; omega
        · have hout2 := hout
          rw [List.take_of_length_le (by omega)] at hout2
          have hout3 : IsInts _ _ (sortI l) := hout2
          clear hout hout2
          by_cases hm : mayB (sortI l) = true
          · have HG : Hid (normR l = (sortI l, 0)) := HF.out.trans (by unfold tautR; rw [if_pos hm])
            go_wp2_with (go_at_call 25; refine (rmay_v _ _ _ hout3).mono ?_; rintro e w' ⟨rfl, hq⟩)
            go_ret2
            exact ⟨_, ret_pair (by rw [HG.out]), by rw [HG.out]; exact hout3.quiet hq, hbel.trans (hq.below _)⟩
          · have HG : Hid (normR l = ([], 10)) := HF.out.trans (by unfold tautR; rw [if_neg hm])
            have hm' : mayB (sortI l) = false := by simpa using hm
            clear hm
            go_wp2_with (go_at_call 25; refine (rmay_v _ _ _ hout3).mono ?_; rintro e w' ⟨rfl, hq⟩)
            go_ret2
            exact ⟨_, ret_pair (by rw [HG.out]), by rw [HG.out]; exact IsInts.nil _, hbel.trans (hq.below _)⟩

end Go.Proofs.YtnedpngadfkmiaaDoor
