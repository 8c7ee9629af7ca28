/- The reference's Put. -/
import Derived.Test.YtmiijgjpkkmoaaaGreatMpB
import Derived.Test.YtmiijgjpkkmoaaaGreatMgA
namespace Go.Proofs.YtmiijgjpkkmoaaaGreat
open Go.RowKit
set_option linter.unusedVariables false
set_option linter.unusedSimpArgs false

def leB (n x : Int) : Bool := decide (x ≤ n)
def putP (l : List Int) (n : Int) : List Int := l.takeWhile (leB n) ++ n :: l.dropWhile (leB n)
def putL (l : List Int) (n : Int) : List Int := if n ∈ l then l else putP l n
theorem putP_len (l : List Int) (n : Int) : (putP l n).length = l.length + 1 := by
  unfold putP
  have := congrArg List.length (List.takeWhile_append_dropWhile (p := leB n) (l := l))
  rw [List.length_append] at this
  rw [List.length_append, List.length_cons]
  omega
theorem tw_all {p : Int → Bool} : ∀ {l : List Int}, (∀ x ∈ l, p x = true) → l.takeWhile p = l ∧ l.dropWhile p = []
  | [], _ => ⟨rfl, rfl⟩
  | y :: r, h => by
    have h1 := h y List.mem_cons_self
    have h2 := tw_all (l := r) (fun x hx => h x (List.mem_cons_of_mem _ hx))
    rw [List.takeWhile_cons, List.dropWhile_cons, if_pos h1, if_pos h1, h2.1, h2.2]
    exact ⟨rfl, rfl⟩
theorem dw_ne {p : Int → Bool} {x : Int} (hp : p x = false) : ∀ {l : List Int}, x ∈ l → l.dropWhile p ≠ []
  | [], h => by cases h
  | y :: r, h => by
    rw [List.dropWhile_cons]
    split
    · rename_i hy
      rcases List.mem_cons.1 h with rfl | h
      · rw [hp] at hy; cases hy
      · exact dw_ne hp h
    · exact fun e => by cases e
/-- All are at most n. -/
theorem putP_low {l : List Int} {n : Int} (h : ∀ x ∈ l, x ≤ n) : putP l n = l ++ [n] := by
  unfold putP
  have h1 := tw_all (p := leB n) (l := l) (fun x hx => by unfold leB; exact decide_eq_true (h x hx))
  rw [h1.1, h1.2]
theorem putP_first {l : List Int} {n y : Int} (h : ∀ x ∈ l, x ≤ n) (hy : n < y) : putP (l ++ [y]) n = l ++ [n] ++ [y] := by
  unfold putP
  have hl : ∀ x ∈ l, leB n x = true := fun x hx => by unfold leB; exact decide_eq_true (h x hx)
  have hyf : leB n y = false := by unfold leB; rw [decide_eq_false_iff_not]; omega
  have h1 : (l ++ [y]).takeWhile (leB n) = l := by
    rw [List.takeWhile_append_of_pos hl]
    simp [List.takeWhile_cons, hyf]
  have h2 : (l ++ [y]).dropWhile (leB n) = [y] := by
    rw [List.dropWhile_append_of_pos hl]
    simp [List.dropWhile_cons, hyf]
  rw [h1, h2]
  simp
theorem putP_more {l : List Int} {n y : Int} (h : ∃ x ∈ l, n < x) : putP (l ++ [y]) n = putP l n ++ [y] := by
  obtain ⟨x, hx, hn⟩ := h
  have hxf : leB n x = false := by unfold leB; rw [decide_eq_false_iff_not]; omega
  have hne : l.dropWhile (leB n) ≠ [] := dw_ne hxf hx
  unfold putP
  have h1 : (l ++ [y]).takeWhile (leB n) = l.takeWhile (leB n) := by
    rw [List.takeWhile_append, if_neg]
    intro e
    have h3 := List.takeWhile_append_dropWhile (p := leB n) (l := l)
    have h4 := congrArg List.length h3
    rw [List.length_append] at h4
    exact hne (List.eq_nil_of_length_eq_zero (by omega))
  have h2 : (l ++ [y]).dropWhile (leB n) = l.dropWhile (leB n) ++ [y] := by
    rw [List.dropWhile_append, if_neg]
    simpa using hne
  rw [h1, h2]
  simp

/-- What the loop has done with the first ones. -/
def PutInv (l : List Int) (n : Int) (k : Nat) (xs : List Int) (d : Bool) : Prop :=
  n ∉ l.take k ∧ (d = false → xs = l.take k ∧ ∀ x ∈ l.take k, x ≤ n) ∧ (d = true → xs = putP (l.take k) n ∧ ∃ x ∈ l.take k, n < x)
theorem take_sn {l : List Int} {k : Nat} (hk : k < l.length) : l.take (k + 1) = l.take k ++ [l.getD k 0] := by rw [List.take_succ_eq_append_getElem hk]; simp [List.getD, hk]
theorem PutInv.low {l : List Int} {n : Int} {k : Nat} {xs : List Int} (h : PutInv l n k xs false) (hk : k < l.length) (hne : l.getD k 0 ≠ n) (hy : ¬ n < l.getD k 0) : PutInv l n (k + 1) (xs ++ [l.getD k 0]) false := by
  obtain ⟨h1, h2, _⟩ := h
  obtain ⟨h3, h4⟩ := h2 rfl
  rw [h3]
  refine ⟨?_, fun _ => ⟨(take_sn hk).symm, ?_⟩, fun e => by cases e⟩
  · rw [take_sn hk, List.mem_append, List.mem_singleton]; exact fun h => h.elim h1 (fun e => hne e.symm)
  · intro x hx
    rw [take_sn hk] at hx
    rcases List.mem_append.1 hx with hx | hx
    · exact h4 x hx
    · rw [List.mem_singleton] at hx; omega
theorem PutInv.first {l : List Int} {n : Int} {k : Nat} {xs : List Int} (h : PutInv l n k xs false) (hk : k < l.length) (hy : n < l.getD k 0) : PutInv l n (k + 1) (xs ++ [n] ++ [l.getD k 0]) true := by
  obtain ⟨h1, h2, _⟩ := h
  obtain ⟨h3, h4⟩ := h2 rfl
  rw [h3]
  refine ⟨?_, (fun e => by cases e), fun _ => ⟨?_, l.getD k 0, ?_, hy⟩⟩
  · rw [take_sn hk, List.mem_append, List.mem_singleton]; exact fun h => h.elim h1 (fun e => by omega)
  · rw [take_sn hk, putP_first h4 hy]
  · rw [take_sn hk]; simp
theorem PutInv.more {l : List Int} {n : Int} {k : Nat} {xs : List Int} (h : PutInv l n k xs true) (hk : k < l.length) (hne : l.getD k 0 ≠ n) : PutInv l n (k + 1) (xs ++ [l.getD k 0]) true := by
  obtain ⟨h1, _, h2⟩ := h
  obtain ⟨h3, x, hx, h4⟩ := h2 rfl
  rw [h3]
  refine ⟨?_, (fun e => by cases e), fun _ => ⟨?_, x, ?_, h4⟩⟩
  · rw [take_sn hk, List.mem_append, List.mem_singleton]; exact fun h => h.elim h1 (fun e => hne e.symm)
  · rw [take_sn hk, putP_more ⟨x, hx, h4⟩]
  · rw [take_sn hk]; exact List.mem_append_left _ hx
theorem PutInv.len {l : List Int} {n : Int} {k : Nat} {xs : List Int} {d : Bool} (h : PutInv l n k xs d) : xs.length ≤ l.length + 1 := by
  obtain ⟨_, h1, h2⟩ := h
  have h3 := List.length_take_le' k l
  cases d with
  | false => rw [(h1 rfl).1]; omega
  | true => rw [(h2 rfl).1, putP_len]; omega
theorem PutInv.done {l : List Int} {n : Int} {xs : List Int} (h : PutInv l n l.length xs true) : xs = putL l n := by
  obtain ⟨h1, _, h2⟩ := h
  rw [List.take_length] at h1 h2
  unfold putL
  rw [if_neg h1, (h2 rfl).1]
theorem PutInv.last {l : List Int} {n : Int} {xs : List Int} (h : PutInv l n l.length xs false) : xs ++ [n] = putL l n := by
  obtain ⟨h1, h2, _⟩ := h
  rw [List.take_length] at h1 h2
  unfold putL
  rw [if_neg h1, (h2 rfl).1, putP_low (h2 rfl).2]
theorem putL_64 {l : List Int} {n : Int} (h : In64 l) (h1 : -9223372036854775808 ≤ n) (h2 : n ≤ 9223372036854775807) : In64 (putL l n) := by
  unfold putL
  split
  · exact h
  · intro x hx
    unfold putP at hx
    rcases List.mem_append.1 hx with hx | hx
    · exact h x (List.takeWhile_subset _ hx)
    · rcases List.mem_cons.1 hx with rfl | hx
      · exact ⟨h1, h2⟩
      · exact h x (List.dropWhile_subset _ hx)

def RetIntV (w : World) (xs : List Int) (e : Ending) (w' : World) : Prop := ∃ v, e = .returned v ∧ IsInts w' v xs ∧ Below w.heap.size w w'

set_option maxRecDepth 100000 in
set_option maxHeartbeats 1600000 in
theorem rput_any (vl : Value) (l : List Int) (n : Int) (w : World) (H : IsInts w vl l) (hl : l.length ≤ 4000000) (hn1 : -9223372036854775808 ≤ n) (hn2 : n ≤ 9223372036854775807) :
    Calls Tryz.prog 72 #[vl, .int .i64 n] w (RetIntV w (putL l n)) := by
  have HH := Lib.hid H
  have H64 : Hid (In64 l) := by obtain ⟨_, _, _, _, _, _, g, _⟩ := H; exact g
  have HP64 := Lib.hid (putL_64 H64.out hn1 hn2)
  have HPL : Hid ((putL l n).length ≤ 4000001) := by
    show _ ≤ _
    unfold putL
    split
    · omega
    · rw [putP_len]; omega
  have HPM : Hid (n ∈ l → putL l n = l) := fun h => by unfold putL; rw [if_pos h]
  obtain ⟨a, cap, rfl⟩ := H.shape
  have hl0 : (l.length : Int) ≤ 4000000 := by omega
  have HLL := Lib.hid hl
  clear H hl
  go_enter Tryz.func72, Tryz.ntmps72
  go_wp2
  go_loopw [5, 6, 7] (fun out d i wr => ∃ (k : Nat) (xs : List Int) (db : Bool), k ≤ l.length ∧ i = .int .i64 k ∧ d = .bool db ∧ Own wr w.heap.size out xs ∧ Below w.heap.size w wr ∧ PutInv l n k xs db) (fun _ _ i _ => l.length - (intOf i).toNat)
  case atStart => exact ⟨0, [], false, Nat.zero_le _, rfl, rfl, Own.nil _ _, Below.refl _ _, by simp [PutInv]⟩
  case round =>
    obtain ⟨k, xs, db, hk, rfl, rfl, hown, hbel, hinv⟩ := hrel
    have HIV := Lib.hid hinv
    have hxl := hinv.len
    have hszr := hbel.size
    have HO := Lib.hid hown
    have HB := Lib.hid hbel
    have hlv := Lib.hid (HH.out.below hbel (Nat.le_refl _))
    clear hown hbel hinv
    by_cases hlt : k < l.length
    · obtain ⟨b, off, hcell⟩ : ∃ b off, a = some ⟨b, off, none⟩ ∧ b < w.heap.size ∧ w.cell? ⟨b, off + k, none⟩ = some (.int .i64 (l.getD k 0)) := by
        obtain ⟨a', cap', e, _, _, _, _, b, off, ha, hc⟩ := HH.out
        injection e with e1 e2 e3
        subst e1
        have h := ha (by intro h; simp [h] at hlt)
        exact ⟨b, off, h.1, h.2, hc k hlt⟩
      obtain ⟨rfl, hbw, hcw⟩ := hcell
      have hcx := (HB.out.cell (p := ⟨b, off + k, none⟩) hbw).trans hcw
      have h64k := H64.out.at k hlt
      have hmem : n = l.getD k 0 → n ∈ l := fun e => by rw [e]; exact getD_mem hlt
      have HLOW : Hid (db = false → l.getD k 0 ≠ n → ¬ n < l.getD k 0 → PutInv l n (k + 1) (xs ++ [l.getD k 0]) false) := fun e h1 h2 => by subst e; exact HIV.out.low hlt h1 h2
      have HFI : Hid (db = false → n < l.getD k 0 → PutInv l n (k + 1) (xs ++ [n] ++ [l.getD k 0]) true) := fun e h1 => by subst e; exact HIV.out.first hlt h1
      have HMO : Hid (db = true → l.getD k 0 ≠ n → PutInv l n (k + 1) (xs ++ [l.getD k 0]) true) := fun e h1 => by subst e; exact HIV.out.more hlt h1
      have hi0 : (0 : Int) ≤ (k : Int) := by omega
      have hi1 : (k : Int) < (l.length : Int) := by omega
      have hy1 := h64k.1
      have hy2 := h64k.2
      clear h64k
      generalize l.getD k 0 = y at *
      by_cases he : y = n
      · have HLE := Lib.hid (HPM.out (hmem he.symm))
        subst he
        have hyy : (y == y) = true := by simp
        clear hmem HLOW HFI HMO HIV
        go_wp2
        go_ret
        exact ⟨_, rfl, by rw [HLE.out]; exact hlv.out, HB.out⟩
      · have hyn : (y == n) = false := by simpa using he
        cases db with
        | true =>
          have HN := Lib.hid (HMO.out rfl he)
          clear hmem HLOW HFI HMO HIV he
          go_wp2_with (at_builtin; refine wpList_app1 rfl (.tmp 35) (.tmp 40) rfl w.heap.size _ xs y wr.heap.size rfl rfl (HO.out.alloc _) (cell_fresh rfl) (by omega) (by simp; omega) ?_; intro v1 w1 ho1 hg1; have HO1 := Lib.hid ho1; have HB1 := Lib.hid (below_app (HB.out.alloc hszr _) (HO.out.alloc _) (by simp; omega) hg1); clear ho1 hg1)
          go_roundw
          case rel => exact ⟨k + 1, _, true, by omega, by go_num, rfl, HO1.out, HB1.out, HN.out⟩
          case measure => simp [intOf]; omega
        | false =>
          by_cases hgt : n < y
          · have HN := Lib.hid (HFI.out rfl hgt)
            have hgd : decide (n < y) = true := by simpa using hgt
            clear hmem HLOW HFI HMO HIV he
            go_wp2_with (first
              | (at_builtin; refine wpList_app1 rfl (.tmp 35) (.tmp 40) rfl w.heap.size _ (xs ++ [n]) y w1.heap.size rfl rfl (HO1.out.alloc _) (cell_fresh rfl) (by simp; omega) (by have := HB1.out.size; simp; omega) ?_; intro v2 w2 ho2 hg2; have HO2 := Lib.hid ho2; have HB2 := Lib.hid (below_app (HB1.out.alloc HB1.out.size _) (HO1.out.alloc _) (by have := HB1.out.size; simp; omega) hg2); clear ho2 hg2)
              | (at_builtin; refine wpList_app1 rfl (.tmp 31) (.tmp 33) rfl w.heap.size _ xs n wr.heap.size rfl rfl (HO.out.alloc _) (cell_fresh rfl) (by omega) (by simp; omega) ?_; intro v1 w1 ho1 hg1; have HO1 := Lib.hid ho1; have HB1 := Lib.hid (below_app (HB.out.alloc hszr _) (HO.out.alloc _) (by simp; omega) hg1); have d1 : w1.cell? ⟨b, off + k, none⟩ = some (.int .i64 y) := (HB1.out.cell (p := ⟨b, off + k, none⟩) hbw).trans hcw; clear ho1 hg1))
            go_roundw
            case rel => exact ⟨k + 1, _, true, by omega, by go_num, rfl, HO2.out, HB2.out, HN.out⟩
            case measure => simp [intOf]; omega
          · have HN := Lib.hid (HLOW.out rfl he hgt)
            have hgd : decide (n < y) = false := by simpa using hgt
            clear hmem HLOW HFI HMO HIV he
            go_wp2_with (at_builtin; refine wpList_app1 rfl (.tmp 35) (.tmp 40) rfl w.heap.size _ xs y wr.heap.size rfl rfl (HO.out.alloc _) (cell_fresh rfl) (by omega) (by simp; omega) ?_; intro v1 w1 ho1 hg1; have HO1 := Lib.hid ho1; have HB1 := Lib.hid (below_app (HB.out.alloc hszr _) (HO.out.alloc _) (by simp; omega) hg1); clear ho1 hg1)
            go_roundw
            case rel => exact ⟨k + 1, _, false, by omega, by go_num, rfl, HO1.out, HB1.out, HN.out⟩
            case measure => simp [intOf]; omega
    · have hke : k = l.length := by omega
      subst hke
      cases db with
      | true =>
        have HE := Lib.hid HIV.out.done
        go_wp2
        go_ret
        exact ⟨_, rfl, by rw [← HE.out]; exact HO.out.ints (by omega) (by rw [HE.out]; exact HP64.out), HB.out⟩
      | false =>
        have HE := Lib.hid HIV.out.last
        go_wp2_with (at_builtin; refine wpList_app1 rfl (.tmp 44) (.tmp 46) rfl w.heap.size _ xs n wr.heap.size rfl rfl (HO.out.alloc _) (cell_fresh rfl) (by omega) (by simp; omega) ?_; intro v1 w1 ho1 hg1; have HO1 := Lib.hid ho1; have HB1 := Lib.hid (below_app (HB.out.alloc hszr _) (HO.out.alloc _) (by simp; omega) hg1); clear ho1 hg1)
        go_ret
        exact ⟨_, rfl, by rw [← HE.out]; exact HO1.out.ints (by simp; omega) (by rw [HE.out]; exact HP64.out), HB1.out⟩
end Go.Proofs.YtmiijgjpkkmoaaaGreat
