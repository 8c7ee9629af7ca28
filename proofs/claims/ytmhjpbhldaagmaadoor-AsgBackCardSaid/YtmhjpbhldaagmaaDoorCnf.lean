/- MayCnf, SameAll. -/
import Derived.Test.YtmhjpbhldaagmaaDoorMerge
namespace Go.Proofs.YtmhjpbhldaagmaaDoor
open Go.RowKit
set_option linter.unusedVariables false

def tot (f : List (List Int)) : Nat := (f.map List.length).sum
def mayCnfB (f : List (List Int)) : Bool := decide (f.length ≤ 20000 ∧ tot f ≤ 200000 ∧ ∀ l ∈ f, mayB l = true)

theorem rows_getD_mem {f : List (List Int)} {k : Nat} (h : k < f.length) : f.getD k [] ∈ f := by simp [List.getD, h]
theorem rows_take_succ {f : List (List Int)} {k : Nat} (h : k < f.length) : f.take (k + 1) = f.take k ++ [f.getD k []] := by rw [List.take_succ_eq_append_getElem h]; simp [List.getD, h]
theorem tot_append (f g : List (List Int)) : tot (f ++ g) = tot f + tot g := by unfold tot; simp
theorem tot_take_succ {f : List (List Int)} {k : Nat} (h : k < f.length) : tot (f.take (k + 1)) = tot (f.take k) + (f.getD k []).length := by
  rw [rows_take_succ h, tot_append]; simp [tot]
theorem tot_take_le (f : List (List Int)) (k : Nat) : tot (f.take k) ≤ tot f := by
  have := tot_append (f.take k) (f.drop k)
  rw [List.take_append_drop] at this
  omega
theorem rows_forall_take_succ {p : List Int → Prop} {f : List (List Int)} {k : Nat} (h : k < f.length) (hn : ∀ y ∈ f.take k, p y) (hp : p (f.getD k [])) : ∀ y ∈ f.take (k + 1), p y := by
  rw [rows_take_succ h]
  intro y hy
  rcases List.mem_append.1 hy with hy | hy
  · exact hn y hy
  · rw [List.mem_singleton] at hy; rw [hy]; exact hp

/-- The k-th list of a list of lists: where it lies. -/
theorem IsRows.at {w : World} {a : Option Addr} {n cap : Nat} {f : List (List Int)} (H : IsRows w (.slice a n cap) f) {k : Nat} (hk : k < f.length) :
    ∃ b off u, a = some ⟨b, off, none⟩ ∧ b < w.heap.size ∧ w.cell? ⟨b, off + k, none⟩ = some u ∧ IsInts w u (f.getD k []) := by
  obtain ⟨a', cap', e, _, _, _, b, off, ha, hc⟩ := H
  injection e with e1 e2 e3
  subst e1
  obtain ⟨h1, h2⟩ := ha (by intro h; simp [h] at hk)
  obtain ⟨u, hu, hi⟩ := hc k hk
  exact ⟨b, off, u, h1, h2, hu, hi⟩
theorem IsRows.shape {w : World} {v : Value} {f : List (List Int)} (H : IsRows w v f) : ∃ a cap, v = .slice a f.length cap ∧ f.length ≤ 17592186044416 := by
  obtain ⟨a, cap, h, _, _, h4, _⟩ := H; exact ⟨a, cap, h, h4⟩

set_option maxHeartbeats 800000 in
set_option maxRecDepth 100000 in
theorem maycnf_any (v : Value) (f : List (List Int)) (w : World) (H : IsRows w v f) :
    Calls Tryd.prog 33 #[v] w fun e w' => e = .returned (.bool (mayCnfB f)) ∧ w = w' := by
  obtain ⟨a, cap, rfl, hl⟩ := H.shape
  by_cases hbig : 20000 < f.length
  · have HF : Hid (mayCnfB f = false) := by show _ = _; unfold mayCnfB; rw [decide_eq_false_iff_not]; intro h; have := h.1; omega
    go_enter Tryd.func33, Tryd.ntmps33
    go_wp2
    go_ret
    exact ⟨ret_bool HF.out.symm, rfl⟩
  · have hbig' : ¬ (20000 : Int) < (f.length : Int) := by omega
    go_enter Tryd.func33, Tryd.ntmps33
    go_wp2
    go_loop [3, 11] (fun t i => ∃ (k m : Nat), k ≤ f.length ∧ i = .int .i64 k ∧ t = .int .i64 m ∧ m ≤ 200000 ∧ m = tot (f.take k) ∧ ∀ l ∈ f.take k, mayB l = true) (fun _ i => f.length - (intOf i).toNat)
    case atStart => exact ⟨0, 0, Nat.zero_le _, rfl, rfl, by omega, by simp [tot], by simp⟩
    case round =>
      obtain ⟨k, m, hk, rfl, rfl, hm, hmt, hi⟩ := hrel
      have HMT := Lib.hid hmt
      have HI := Lib.hid hi
      clear hmt hi
      by_cases hlt : k < f.length
      · obtain ⟨b, off, u, rfl, hb, hu, HU⟩ := H.at hlt
        have HS := Lib.hid (tot_take_succ hlt)
        have HLE := Lib.hid (tot_take_le f (k + 1))
        have hmem := rows_getD_mem hlt
        have HMEM := Lib.hid hmem
        have HFA := Lib.hid (fun h => rows_forall_take_succ (p := fun l => mayB l = true) hlt HI.out h)
        clear hmem
        generalize f.getD k [] = l at *
        have hll := HU.len
        obtain ⟨a', cap', rfl⟩ := HU.shape
        by_cases htl : m + l.length ≤ 200000
        · by_cases hml : mayB l = true
          · have HN := Lib.hid (HFA.out hml)
            go_wp2_with (go_at_call 32; refine (may_v _ l _ HU).mono ?_; rintro e w' ⟨rfl, rfl⟩)
            go_round
            case rel => exact ⟨k + 1, m + l.length, by omega, by go_num, by go_num, htl, by rw [HS.out, ← HMT.out], HN.out⟩
            case measure => simp [intOf]; omega
          · have HF : Hid (mayCnfB f = false) := by show _ = _; unfold mayCnfB; rw [decide_eq_false_iff_not]; intro h; exact hml (h.2.2 l HMEM.out)
            have hml' : mayB l = false := by simpa using hml
            clear hml
            go_wp2_with (go_at_call 32; refine (may_v _ l _ HU).mono ?_; rintro e w' ⟨rfl, rfl⟩)
            go_ret
            exact ⟨ret_bool HF.out.symm, rfl⟩
        · have HF : Hid (mayCnfB f = false) := by
            show _ = _; unfold mayCnfB; rw [decide_eq_false_iff_not]; intro h
            have h1 := h.2.1
            have h2 := HLE.out
            rw [HS.out, ← HMT.out] at h2
            omega
          have hgt : (200000 : Int) < (m : Int) + (l.length : Int) := by omega
          go_wp2
          go_ret
          exact ⟨ret_bool HF.out.symm, rfl⟩
      · have HF : Hid (mayCnfB f = true) := by
          show _ = _
          unfold mayCnfB
          have h1 := HMT.out
          have h2 := HI.out
          rw [List.take_of_length_le (by omega)] at h1 h2
          rw [decide_eq_true_eq]
          exact ⟨by omega, by omega, h2⟩
        go_wp2
        go_ret
        exact ⟨ret_bool HF.out.symm, rfl⟩

set_option maxHeartbeats 800000 in
set_option maxRecDepth 100000 in
theorem rmaycnf_any (v : Value) (f : List (List Int)) (w : World) (H : IsRows w v f) :
    Calls Tryd.prog 11 #[v] w fun e w' => e = .returned (.bool (mayCnfB f)) ∧ Quiet w w' := by
  obtain ⟨a, cap, rfl, hl⟩ := H.shape
  go_enter Tryd.func11, Tryd.ntmps11
  go_wp2
  go_loopw [3, 4] (fun t i wr => ∃ (k m : Nat), k ≤ f.length ∧ i = .int .i64 k ∧ t = .int .i64 m ∧ k ≤ 20000 ∧ m ≤ 200000 ∧ Quiet w wr ∧ m = tot (f.take k) ∧ ∀ l ∈ f.take k, mayB l = true) (fun _ i _ => f.length - (intOf i).toNat)
  case atStart => exact ⟨0, 0, Nat.zero_le _, rfl, rfl, by omega, by omega, Quiet.refl _, by simp [tot], by simp⟩
  case round =>
    obtain ⟨k, m, hk, rfl, rfl, hk2, hm, hq, hmt, hi⟩ := hrel
    have HMT := Lib.hid hmt
    have HI := Lib.hid hi
    clear hmt hi
    by_cases hlt : k < f.length
    · obtain ⟨b, off, u, rfl, hb, hu0, HU0⟩ := H.at hlt
      have hu := (hq.cell _).trans hu0
      have HU := HU0.quiet hq
      have HS := Lib.hid (tot_take_succ hlt)
      have HLE := Lib.hid (tot_take_le f (k + 1))
      have hmem := rows_getD_mem hlt
      have HMEM := Lib.hid hmem
      have HFA := Lib.hid (fun h => rows_forall_take_succ (p := fun l => mayB l = true) hlt HI.out h)
      clear hmem hu0 HU0
      generalize f.getD k [] = l at *
      have hll := HU.len
      obtain ⟨a', cap', rfl⟩ := HU.shape
      by_cases hk20 : k = 20000
      · have HF : Hid (mayCnfB f = false) := by show _ = _; unfold mayCnfB; rw [decide_eq_false_iff_not]; intro h; have := h.1; omega
        have hk21 : (20000 : Int) ≤ (k : Int) := by omega
        clear hk20
        go_wp2
        go_ret
        exact ⟨ret_bool HF.out.symm, hq⟩
      have hk21 : ¬ (20000 : Int) ≤ (k : Int) := by omega
      by_cases htl : m + l.length ≤ 200000
      · by_cases hml : mayB l = true
        · have HN := Lib.hid (HFA.out hml)
          go_wp2_with (go_at_call 10; refine (rmay_v _ l _ HU).mono ?_; rintro e w' ⟨rfl, hq'⟩)
          go_roundw
          case rel => exact ⟨k + 1, m + l.length, by omega, by go_num, by go_num, by omega, htl, hq.trans hq', by rw [HS.out, ← HMT.out], HN.out⟩
          case measure => simp [intOf]; omega
        · have HF : Hid (mayCnfB f = false) := by show _ = _; unfold mayCnfB; rw [decide_eq_false_iff_not]; intro h; exact hml (h.2.2 l HMEM.out)
          have hml' : mayB l = false := by simpa using hml
          clear hml
          go_wp2_with (go_at_call 10; refine (rmay_v _ l _ HU).mono ?_; rintro e w' ⟨rfl, hq'⟩)
          go_ret
          exact ⟨ret_bool HF.out.symm, hq.trans hq'⟩
      · have HF : Hid (mayCnfB f = false) := by
          show _ = _; unfold mayCnfB; rw [decide_eq_false_iff_not]; intro h
          have h1 := h.2.1
          have h2 := HLE.out
          rw [HS.out, ← HMT.out] at h2
          omega
        have hgt : (200000 : Int) < (m : Int) + (l.length : Int) := by omega
        go_wp2
        go_ret
        exact ⟨ret_bool HF.out.symm, hq⟩
    · have HF : Hid (mayCnfB f = true) := by
        show _ = _
        unfold mayCnfB
        have h1 := HMT.out
        have h2 := HI.out
        rw [List.take_of_length_le (by omega)] at h1 h2
        rw [decide_eq_true_eq]
        exact ⟨by omega, by omega, h2⟩
      go_wp2
      go_ret
      exact ⟨ret_bool HF.out.symm, hq⟩

set_option maxHeartbeats 800000 in
set_option maxRecDepth 100000 in
theorem sameall_any (v u : Value) (l m : List (List Int)) (w : World) (H : IsRows w v l) (K : IsRows w u m) :
    Calls Tryd.prog 31 #[v, u] w fun e w' => e = .returned (.bool (sameB l m)) ∧ Quiet w w' := by
  obtain ⟨a, cap, rfl, hl⟩ := H.shape
  obtain ⟨a2, cap2, rfl, hl2⟩ := K.shape
  by_cases hlen : l.length = m.length
  · have hne : ((l.length : Int) != (m.length : Int)) = false := by simp [hlen]
    have HL := Lib.hid hlen
    clear hlen
    go_enter Tryd.func31, Tryd.ntmps31
    go_wp2
    go_loopw [5] (fun i wr => ∃ k : Nat, k ≤ l.length ∧ i = .int .i64 k ∧ Quiet w wr ∧ l.take k = m.take k) (fun i _ => l.length - (intOf i).toNat)
    case atStart => exact ⟨0, Nat.zero_le _, rfl, Quiet.refl _, by simp⟩
    case round =>
      obtain ⟨k, hk, rfl, hq, hn⟩ := hrel
      have HN := Lib.hid hn
      clear hn
      by_cases hlt : k < l.length
      · have hlt2 : k < m.length := by rw [← HL.out]; exact hlt
        obtain ⟨b, off, u1, rfl, hb, hu0, HU0⟩ := H.at hlt
        obtain ⟨b2, off2, u2, rfl, hb2, hv0, HV0⟩ := K.at hlt2
        have hy := (hq.cell _).trans hu0
        have hz := (hq.cell _).trans hv0
        have HT := Lib.hid (rows_take_succ hlt)
        have HT2 := Lib.hid (rows_take_succ hlt2)
        have HNE := Lib.hid (show l.getD k [] ≠ m.getD k [] → l ≠ m from fun h e => h (by rw [e]))
        have hc := fun n => same_any u1 u2 _ _ (wr.drewN n) ((HU0.quiet hq).drewN n) ((HV0.quiet hq).drewN n)
        generalize l.getD k [] = y at *
        generalize m.getD k [] = z at *
        by_cases he : y = z
        · have hs : sameB y z = true := by unfold sameB; simp [he]
          have HE := Lib.hid he
          clear he
          go_wp2_with fail
          go_quiet ((go_at_call 68; exact quiet_q (hc _)))
          go_wp2
          go_roundw
          case rel => exact ⟨k + 1, by omega, by go_num, hq.drewN _, by rw [HT.out, HT2.out, HN.out, HE.out]⟩
          case measure => simp [intOf]; omega
        · have hs : sameB y z = false := by unfold sameB; simp [he]
          have HLM : Hid (sameB l m = false) := by show _ = _; unfold sameB; rw [decide_eq_false_iff_not]; exact HNE.out he
          clear he
          go_wp2_with fail
          go_quiet ((go_at_call 68; exact quiet_q (hc _)))
          go_wp2
          go_ret
          exact ⟨ret_bool HLM.out.symm, hq.drewN _⟩
      · have HE : Hid (sameB l m = true) := by
          have h := HN.out
          rw [List.take_of_length_le (by omega), List.take_of_length_le (by rw [← HL.out]; omega)] at h
          show _ = _; unfold sameB; simp [h]
        go_wp2
        go_ret
        exact ⟨ret_bool HE.out.symm, hq⟩
  · have hne : ((l.length : Int) != (m.length : Int)) = true := by simp; omega
    have HE : Hid (sameB l m = false) := by show _ = _; unfold sameB; rw [decide_eq_false_iff_not]; intro h; exact hlen (by rw [h])
    clear hlen
    go_enter Tryd.func31, Tryd.ntmps31
    go_wp2
    go_ret
    exact ⟨ret_bool HE.out.symm, Quiet.refl _⟩

end Go.Proofs.YtmhjpbhldaagmaaDoor
