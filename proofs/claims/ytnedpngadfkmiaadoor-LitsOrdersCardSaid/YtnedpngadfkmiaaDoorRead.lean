/- lits.Read. -/
import Derived.Test.YtnedpngadfkmiaaDoorTake
import Derived.Test.YtnedpngadfkmiaaDoorNormR
namespace Go.Proofs.YtnedpngadfkmiaaDoor
open Go.RowKit
set_option linter.unusedVariables false

theorem take_snoc_byte (s : ByteArray) (pos : Nat) (h : pos < s.size) : s.data.toList.take (pos + 1) = s.data.toList.take pos ++ [s[pos]'h] := by
  have hl : pos < s.data.toList.length := by rw [Array.length_toList]; exact h
  rw [List.take_succ_eq_append_getElem hl]
  rfl
theorem run_one {a : Rd} {b : List UInt8} {st : Rd} {c : UInt8} (h : a.run b = some st) : a.run (b ++ [c]) = st.take c.toNat := by
  rw [Rd.run_append, h]
  show (match st.take c.toNat with | none => none | some s' => s'.run []) = _
  cases st.take c.toNat <;> rfl
theorem readL_no {b x y : List UInt8} (hb : b = x ++ y) (hne : b ≠ []) (h : Rd.start.run x = none) : readL b = ([], 5) := by
  unfold readL
  rw [if_neg hne, hb, Rd.run_append, h]
theorem readL_noend {b : List UInt8} {st : Rd} (hne : b ≠ []) (h : Rd.start.run b = some st) (h2 : st.endS = none) : readL b = ([], 5) := by
  unfold readL
  rw [if_neg hne, h]; simp only [h2]
theorem readL_end {b : List UInt8} {st s' : Rd} (hne : b ≠ []) (h : Rd.start.run b = some st) (h2 : st.endS = some s') : readL b = (s'.list, 0) := by
  unfold readL
  rw [if_neg hne, h]; simp only [h2]
theorem Own.iterAt {w : World} {B k : Nat} {u : Value} {xs : List Int} {s : ByteArray} {pos : Nat} (ho : Own w B u xs) (hk : w.heap[k]? = some (.stringIter s pos)) (pos' : Nat) : Own (w.iterAt k s pos') B u xs := by
  refine ⟨ho.1, ?_⟩
  rcases ho.2 with hn | ⟨g, cap, cur, hv, hbg, hg, rest⟩
  · exact .inl hn
  · have hkg : g ≠ k := by
      intro e1
      rw [e1, hk] at hg
      cases hg
    exact .inr ⟨g, cap, cur, hv, hbg, (Lib.iterAt_other w k g s pos' hkg).trans hg, rest⟩
theorem take_high {st : Rd} {c : Int} (h : 128 ≤ c) : st.take c = none := by
  unfold Rd.take; rw [if_neg (by omega), if_neg (by omega), if_neg (by omega)]
theorem Rd.Ok.len {st : Rd} (h : st.Ok) : st.list.length ≤ 65536 := mayB_len h.may
theorem Rd.Ok.in64 {st : Rd} (h : st.Ok) : In64 st.list := fun x hx => by have := litB_bd (mayB_mem h.may x hx); omega

set_option maxHeartbeats 800000 in
set_option maxRecDepth 100000 in
theorem read_any (s : ByteArray) (w : World) (hs : s.size ≤ 9223372036854775807) : Calls Tryd.prog 54 #[.string s] w (RetPair w (readL s.data.toList)) := by
  by_cases h0 : s = ⟨#[]⟩
  · subst h0
    go_enter Tryd.func54, Tryd.ntmps54
    go_wp2
    go_ret2
    exact ⟨_, rfl, IsInts.nil _, Below.refl _ _⟩
  · have hne : s.data.toList ≠ [] := by
      intro e
      apply h0
      obtain ⟨d⟩ := s
      have : d = #[] := by simpa using e
      rw [this]
    have HN := Lib.hid hne
    have hE : s.toList.isEmpty = false := by rw [Lib.toList_data]; cases hl : s.data.toList with | nil => exact absurd hl hne | cons _ _ => rfl
    clear hne
    go_enter Tryd.func54, Tryd.ntmps54
    go_wp2
    go_loopw [] (fun wr => ∃ (pos : Nat) (st : Rd) (v : Value), pos ≤ s.size ∧ IsRd wr w.heap.size v st ∧ Own wr w.heap.size v st.list ∧ wr.heap[w.heap.size + 1]? = some (.stringIter s pos) ∧ Below w.heap.size w wr ∧ Rd.start.run (s.data.toList.take pos) = some st ∧ st.Ok) (fun wr => s.size - wr.iterPos (w.heap.size + 1))
    case atStart =>
      refine ⟨0, Rd.start, .slice none 0 0, Nat.zero_le _, ?_, Own.nil _ _, ?_, ((Below.refl _ w).alloc (Nat.le_refl _) _).alloc (by simp) _, rfl, Rd.Ok.start⟩
      · refine IsRd.alloc ?_ _
        exact heap_alloc_new w _
      · have := World.iter_heap (w.alloc (.cells #[.slice none 0 0, .int .i64 0, .bool false, .int .i64 0] 97)) s 0
        simpa using this
    case round =>
      obtain ⟨pos, st, v, hps, hrd, hown, hit, hbw, hrun, hok⟩ := hrel
      have hsz : w.heap.size + 1 < wr.heap.size := (Array.getElem?_eq_some_iff.1 hit).1
      have hb1 := hok.before_bd.1
      have hb2 := hok.before_bd.2
      have hn1 := hok.low
      have hn2 := hok.high
      have hll := hok.len
      have HK := Lib.hid hok
      have HRUN := Lib.hid hrun
      clear hok hrun
      by_cases hp : pos < s.size
      · have HT := Lib.hid (take_snoc_byte s pos hp)
        have hnx : ∀ ty, (Instr.next (.pointer (some ⟨w.heap.size + 1, 0, none⟩)) true ty).run Tryd.prog wr = _ := fun ty => Lib.run_next_any_at wr (w.heap.size + 1) s pos ty hit hp
        have hd1 := decode_le s pos
        have hrd2 : IsRd (wr.iterAt (w.heap.size + 1) s (pos + (Utf8.decode s pos).2)) w.heap.size v st := hrd.heap (Lib.iterAt_other _ _ _ _ _ (by omega))
        have hown2 := hown.iterAt hit (pos + (Utf8.decode s pos).2)
        have hit2 := Lib.iterAt_heap wr (w.heap.size + 1) s pos (pos + (Utf8.decode s pos).2) hit
        have hbw2 := Lib.below_iterAt hbw (k := w.heap.size + 1) (by omega) s (pos + (Utf8.decode s pos).2)
        have hsz2 : w.heap.size ≤ (wr.iterAt (w.heap.size + 1) s (pos + (Utf8.decode s pos).2)).heap.size := by rw [Lib.iterAt_size]; omega
        cases htk : st.take ((Utf8.decode s pos).1 : Int) with
        | none =>
          have HNO : Hid (readL s.data.toList = ([], 5)) := by
            have e : s.data.toList = s.data.toList.take (pos + 1) ++ s.data.toList.drop (pos + 1) := (List.take_append_drop _ _).symm
            refine readL_no e HN.out ?_
            rw [HT.out, run_one HRUN.out]
            by_cases ha : (s[pos]'hp).toNat < 128
            · rw [decode_ascii s pos hp ha] at htk; exact htk
            · exact take_high (by omega)
          have HTK := Lib.hid htk
          clear hps hrd hit hown htk HT
          go_wp2_with (go_at_call 110; refine (take_any w.heap.size w.heap.size v st _ _ (Nat.le_refl _) hrd2 hown2 hsz2 (by omega) hn1 hn2 (by omega) (by omega) (by omega) (by omega)).mono ?_; rintro e w2 ⟨k1, k2, k3, k4⟩; have ke := k3 HTK.out; subst ke)
          go_ret2
          rw [HNO.out]
          exact ⟨_, rfl, IsInts.nil _, hbw2.trans k1⟩
        | some st2 =>
          have hasc : (s[pos]'hp).toNat < 128 := by
            rcases Nat.lt_or_ge (s[pos]'hp).toNat 128 with h | h
            · exact h
            · rw [take_high (by have := (decode_high s pos hp h).1; omega)] at htk; cases htk
          have hst2 : st2.Ok ∧ Rd.start.run (s.data.toList.take (pos + 1)) = some st2 := by
            rw [decode_ascii s pos hp hasc] at htk
            exact ⟨(Rd.take_ok HK.out htk).1, by rw [HT.out, run_one HRUN.out]; exact htk⟩
          have hw1 : (Utf8.decode s pos).2 = 1 := by rw [decode_ascii s pos hp hasc]
          rw [hw1] at hrd2 hown2 hit2 hbw2 hsz2
          have hnx2 : ∀ ty, (Instr.next (.pointer (some ⟨w.heap.size + 1, 0, none⟩)) true ty).run Tryd.prog wr = .ok (.tuple #[.bool true, .int .i64 pos, .int .i32 (Utf8.decode s pos).1]) (wr.iterAt (w.heap.size + 1) s (pos + 1)) := fun ty => by rw [hnx ty, hw1]
          have HS := Lib.hid hst2
          have HTK := Lib.hid htk
          have HIT := Lib.hid hit
          clear hps hrd hit hown htk HT hst2 hnx hw1
          go_wp2_with (go_at_call 110; refine (take_any w.heap.size w.heap.size v st _ _ (Nat.le_refl _) hrd2 hown2 hsz2 (by omega) hn1 hn2 (by omega) (by omega) (by omega) (by omega)).mono ?_; rintro e w2 ⟨k1, k2, k3, k4⟩; obtain ⟨ke, v2, k5, k6⟩ := k4 st2 HTK.out; subst ke)
          go_roundw
          case rel => exact ⟨pos + 1, st2, v2, by omega, k5, k6, k2.iter hit2 (by omega), hbw2.trans k1, HS.out.2, HS.out.1⟩
          case measure =>
            have h1 := k2.iter hit2 (by omega)
            simp only [World.iterPos, h1, HIT.out]
            omega
      · have hpe : pos = s.size := by omega
        have HRE : Hid (Rd.start.run s.data.toList = some st) := by
          have := HRUN.out
          rw [List.take_of_length_le (by rw [Array.length_toList]; exact Nat.le_of_eq hpe.symm)] at this
          exact this
        have hnx : ∀ ty, (Instr.next (.pointer (some ⟨w.heap.size + 1, 0, none⟩)) true ty).run Tryd.prog wr = _ := fun ty => Lib.run_next_end_at wr (w.heap.size + 1) s pos ty hit hp
        have hsz2 : w.heap.size ≤ wr.heap.size := by omega
        cases hes : st.endS with
        | none =>
          have HE := Lib.hid (readL_noend HN.out HRE.out hes)
          have HTK := Lib.hid hes
          clear hes hit
          go_wp2_with (go_at_call 111; refine (end_any w.heap.size w.heap.size v st _ (Nat.le_refl _) hrd hown hsz2 (by omega) hn1 (by omega) (by omega) (by omega)).mono ?_; rintro e w2 ⟨k1, k2, k3, k4⟩; have ke := k3 HTK.out; subst ke)
          go_ret2
          rw [HE.out]
          exact ⟨_, rfl, IsInts.nil _, hbw.trans k1⟩
        | some st2 =>
          have HE := Lib.hid (readL_end HN.out HRE.out hes)
          have HO := Lib.hid (Rd.end_ok HK.out hes).1
          have HTK := Lib.hid hes
          clear hes hit
          go_wp2_with (go_at_call 111; refine (end_any w.heap.size w.heap.size v st _ (Nat.le_refl _) hrd hown hsz2 (by omega) hn1 (by omega) (by omega) (by omega)).mono ?_; rintro e w2 ⟨k1, k2, k3, k4⟩; obtain ⟨ke, v2, k5, k6⟩ := k4 st2 HTK.out; subst ke; have kc := k5.c0)
          go_ret2
          rw [HE.out]
          exact ⟨_, rfl, k6.ints (by have := HO.out.len; omega) HO.out.in64, hbw.trans k1⟩

end Go.Proofs.YtnedpngadfkmiaaDoor
