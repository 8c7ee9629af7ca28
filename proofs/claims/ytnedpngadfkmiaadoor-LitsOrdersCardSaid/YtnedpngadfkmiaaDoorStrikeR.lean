/- The reference's Strike. -/
import Derived.Test.YtnedpngadfkmiaaDoorSubR
namespace Go.Proofs.YtnedpngadfkmiaaDoor
open Go.RowKit
set_option linter.unusedVariables false

def strkB (a b : List Int) (y : Int) : Bool := memB a (-y) && subR (withoutL a (varOf y)) b
def strikeR (a b : List Int) : Int := if mayB a && mayB b then (b.find? (strkB a b)).getD 0 else 0

theorem find_at {p : Int → Bool} {l : List Int} {k : Nat} (h : k < l.length) (hn : ∀ y ∈ l.take k, p y = false) (hp : p (l.getD k 0) = true) : l.find? p = some (l.getD k 0) := by
  have e : l = l.take k ++ (l.getD k 0 :: l.drop (k + 1)) := by
    have e2 : l.drop k = l.getD k 0 :: l.drop (k + 1) := by rw [List.drop_eq_getElem_cons h]; simp [List.getD, h]
    rw [← e2, List.take_append_drop]
  have hf : (l.take k).find? p = none := by rw [List.find?_eq_none]; intro x hx; simp [hn x hx]
  generalize l.getD k 0 = y at *
  rw [e, List.find?_append, hf, List.find?_cons, hp]; rfl
theorem find_none {p : Int → Bool} {l : List Int} (hn : ∀ y ∈ l, p y = false) : l.find? p = none := by
  rw [List.find?_eq_none]; intro x hx; simp [hn x hx]
theorem forall_take_succ {p : Int → Prop} {l : List Int} {k : Nat} (h : k < l.length) (hn : ∀ y ∈ l.take k, p y) (hp : p (l.getD k 0)) : ∀ y ∈ l.take (k + 1), p y := by
  have e : l.take (k + 1) = l.take k ++ [l.getD k 0] := by rw [List.take_succ_eq_append_getElem h]; simp [List.getD, h]
  rw [e]
  intro y hy
  rcases List.mem_append.1 hy with hy | hy
  · exact hn y hy
  · rw [List.mem_singleton] at hy; rw [hy]; exact hp

set_option maxHeartbeats 800000 in
set_option maxRecDepth 100000 in
theorem rstrike_any (v u : Value) (l m : List Int) (w : World) (H : IsInts w v l) (K : IsInts w u m) :
    Calls Tryd.prog 41 #[v, u] w fun e w' => e = .returned (.int .i64 (strikeR l m)) ∧ Below w.heap.size w w' := by
  have K0 := K
  have hll := H.len
  have hl64 := H.in64
  obtain ⟨a, cap, rfl, _, _, hl, h64, b, off, ha, hc⟩ := K
  by_cases hm1 : mayB l = true
  · by_cases hm2 : mayB m = true
    · have HF : Hid (strikeR l m = (m.find? (strkB l m)).getD 0) := by show _ = _; unfold strikeR; rw [hm1, hm2]; rfl
      go_enter Tryd.func41, Tryd.ntmps41
      go_wp2_with fail
      refine (rmay_v _ l _ H).mono ?_
      rintro e w1 ⟨rfl, hq1⟩
      go_wp2_with fail
      refine (rmay_v _ m _ (K0.quiet hq1)).mono ?_
      rintro e w2 ⟨rfl, hq2⟩
      have hbel2 := (hq1.trans hq2).below w.heap.size
      clear hq1 hq2
      go_wp2_with fail
      go_loopw [5] (fun i wr => ∃ k : Nat, k ≤ m.length ∧ i = .int .i64 k ∧ Below w.heap.size w wr ∧ ∀ y ∈ m.take k, strkB l m y = false) (fun i _ => m.length - (intOf i).toNat)
      case atStart => exact ⟨0, Nat.zero_le _, rfl, hbel2, by simp⟩
      case round =>
        obtain ⟨k, hk, rfl, hbel, hi⟩ := hrel
        have hsz := hbel.size
        have HR := H.below hbel (Nat.le_refl _)
        have KR := K0.below hbel (Nat.le_refl _)
        by_cases hlt : k < m.length
        · obtain ⟨rfl, hb⟩ := ha (by intro h; simp [h] at hlt)
          have hy := (hbel.cell (p := ⟨b, off + k, none⟩) hb).trans (hc k hlt)
          have hy1 := (h64.at k hlt).1
          have hy2 := (h64.at k hlt).2
          obtain ⟨_, hy3, hy4⟩ := litB_bd (mayB_mem hm2 _ (getD_mem hlt))
          have hsb : strkB l m (m.getD k 0) = (memB l (-(m.getD k 0)) && subR (withoutL l (varOf (m.getD k 0))) m) := rfl
          have hfa := fun h => find_at hlt hi h
          have hft := fun h => forall_take_succ (p := fun y => strkB l m y = false) hlt hi h
          have HFA := Lib.hid hfa
          have HFT := Lib.hid hft
          have HC := Lib.hid hc
          clear hc hi hfa hft
          generalize m.getD k 0 = y at *
          have hv := varOf_bd y
          have hwl := withoutL_len l (varOf y)
          have hw64 := withoutL_64 hl64 (varOf y)
          by_cases h1 : memB l (-y) = true
          · by_cases h2 : subR (withoutL l (varOf y)) m = true
            · have HG : Hid (strikeR l m = y) := HF.out.trans (by rw [HFA.out (by rw [hsb, h1, h2]; rfl)]; rfl)
              clear hsb
              go_wp2_with (first | (go_at_call 27; refine (rhas_any _ l (-y) _ HR (by omega) (by omega)).mono ?_; rintro e w' ⟨rfl, rfl⟩) | (go_at_call 23; refine (rvar_any _ _ (by omega) (by omega)).mono ?_; rintro e w' ⟨rfl, rfl⟩) | (go_at_call 31; refine (rwithout_any _ l _ _ HR (by omega) (by omega)).mono ?_; rintro e w3 ⟨v1, rfl, hown1, hbel3⟩; have A1 := hown1.ints (by omega) hw64; have K3 := KR.below hbel3 (Nat.le_refl _); have hb3 := K3; have hbel4 := hbel.trans (hbel3.mono hsz); have hy5 := (hbel4.cell (p := ⟨b, off + k, none⟩) hb).trans (HC.out k hlt)) | (go_at_call 39; refine (rsub_any _ _ _ _ _ A1 K3).mono ?_; rintro e w5 ⟨rfl, hq5⟩; have hbel5 := hbel4.trans (hq5.below w.heap.size); have hcy := (hbel5.cell (p := ⟨b, off + k, none⟩) hb).trans (hbel.cell (p := ⟨b, off + k, none⟩) hb).symm; rw [hy] at hcy))
              go_ret
              exact ⟨ret_int HG.out.symm, hbel5⟩
            · have h2' : subR (withoutL l (varOf y)) m = false := by simpa using h2
              have HN := Lib.hid (HFT.out (by rw [hsb, h1, h2']; rfl))
              clear hsb h2
              go_wp2_with (first | (go_at_call 27; refine (rhas_any _ l (-y) _ HR (by omega) (by omega)).mono ?_; rintro e w' ⟨rfl, rfl⟩) | (go_at_call 23; refine (rvar_any _ _ (by omega) (by omega)).mono ?_; rintro e w' ⟨rfl, rfl⟩) | (go_at_call 31; refine (rwithout_any _ l _ _ HR (by omega) (by omega)).mono ?_; rintro e w3 ⟨v1, rfl, hown1, hbel3⟩; have A1 := hown1.ints (by omega) hw64; have K3 := KR.below hbel3 (Nat.le_refl _)) | (go_at_call 39; refine (rsub_any _ _ _ _ _ A1 K3).mono ?_; rintro e w5 ⟨rfl, hq5⟩))
              go_roundw
              case rel => exact ⟨k + 1, by omega, by go_num, hbel.trans ((hbel3.mono hsz).trans (hq5.below _)), HN.out⟩
              case measure => simp [intOf]; omega
          · have h1' : memB l (-y) = false := by simpa using h1
            have HN := Lib.hid (HFT.out (by rw [hsb, h1']; rfl))
            clear hsb h1
            go_wp2_with (go_at_call 27; refine (rhas_any _ l (-y) _ HR (by omega) (by omega)).mono ?_; rintro e w' ⟨rfl, rfl⟩)
            go_roundw
            case rel => exact ⟨k + 1, by omega, by go_num, hbel, HN.out⟩
            case measure => simp [intOf]; omega
        · have HG : Hid (strikeR l m = 0) := by
            rw [List.take_of_length_le (by omega)] at hi
            exact HF.out.trans (by rw [find_none hi]; rfl)
          clear hi
          go_wp2
          go_ret
          exact ⟨ret_int HG.out.symm, hbel⟩
    · have hm2' : mayB m = false := by simpa using hm2
      have HF : Hid (strikeR l m = 0) := by show _ = _; unfold strikeR; rw [hm1, hm2']; rfl
      clear hm2
      go_enter Tryd.func41, Tryd.ntmps41
      go_wp2_with fail
      refine (rmay_v _ l _ H).mono ?_
      rintro e w1 ⟨rfl, hq1⟩
      go_wp2_with fail
      refine (rmay_v _ m _ (K0.quiet hq1)).mono ?_
      rintro e w2 ⟨rfl, hq2⟩
      go_wp2
      go_ret
      exact ⟨ret_int HF.out.symm, (hq1.trans hq2).below _⟩
  · have hm1' : mayB l = false := by simpa using hm1
    have HF : Hid (strikeR l m = 0) := by show _ = _; unfold strikeR; rw [hm1']; rfl
    clear hm1
    go_enter Tryd.func41, Tryd.ntmps41
    go_wp2_with fail
    refine (rmay_v _ l _ H).mono ?_
    rintro e w1 ⟨rfl, hq1⟩
    go_wp2
    go_ret
    exact ⟨ret_int HF.out.symm, hq1.below _⟩

end Go.Proofs.YtnedpngadfkmiaaDoor
