/- Joined texts: PxRVar, PxSorted. -/
import Derived.Test.YtmiijgjpkkmoaaaGreatPxRPut
import Derived.Test.YtmiijgjpkkmoaaaGreatMpO
import Derived.Test.YtmiijgjpkkmoaaaGreatMpB
import Derived.Test.YtmiijgjpkkmoaaaGreatPxLawReds
import Derived.Test.YtmiijgjpkkmoaaaGreatPxLinear
/- The reference's Put on a list of the call's own, and its Vars. -/
namespace Go.Proofs.YtmiijgjpkkmoaaaGreat
open Go.RowKit
set_option linter.unusedVariables false
set_option linter.unusedSimpArgs false

set_option maxRecDepth 100000 in
set_option maxHeartbeats 1600000 in
theorem rputO_any (B : Nat) (vl : Value) (l : List Int) (n : Int) (w : World) (HOw : Own w B vl l) (hBw : B ≤ w.heap.size) (h64 : In64 l) (hl : l.length ≤ 4000000) (hn1 : -9223372036854775808 ≤ n) (hn2 : n ≤ 9223372036854775807) :
    Calls Tryz.prog 72 #[vl, .int .i64 n] w (fun e w' => ∃ v, e = .returned v ∧ Own w' B v (putL l n) ∧ Below w.heap.size w w') := by
  have H := HOw.ints (by omega) h64
  have HOW := Lib.hid HOw
  have HBW := Lib.hid hBw
  clear HOw hBw h64
  have HH := Lib.hid H
  have H64 : Hid (In64 l) := by obtain ⟨_, _, _, _, _, _, g, _⟩ := H; exact g
  have HP64 := Lib.hid (putL_64 H64.out hn1 hn2)
  have HPL : Hid ((putL l n).length ≤ 4000001) := by
    show _ ≤ _
    unfold putL
    split
    · omega
    · rw [putP_len]; omega
  have HPM : Hid (n ∈ l → putL l n = l) := fun h => by unfold putL; rw [if_pos h]
  obtain ⟨a, cap, rfl⟩ := H.shape
  have hl0 : (l.length : Int) ≤ 4000000 := by omega
  have HLL := Lib.hid hl
  clear H hl
  go_enter Tryz.func72, Tryz.ntmps72
  go_wp2
  go_loopw [5, 6, 7] (fun out d i wr => ∃ (k : Nat) (xs : List Int) (db : Bool), k ≤ l.length ∧ i = .int .i64 k ∧ d = .bool db ∧ Own wr w.heap.size out xs ∧ Below w.heap.size w wr ∧ PutInv l n k xs db) (fun _ _ i _ => l.length - (intOf i).toNat)
  case atStart => exact ⟨0, [], false, Nat.zero_le _, rfl, rfl, Own.nil _ _, Below.refl _ _, by simp [PutInv]⟩
  case round =>
    obtain ⟨k, xs, db, hk, rfl, rfl, hown, hbel, hinv⟩ := hrel
    have HIV := Lib.hid hinv
    have hxl := hinv.len
    have hszr := hbel.size
    have HO := Lib.hid hown
    have HB := Lib.hid hbel
    have hlv := Lib.hid (HH.out.below hbel (Nat.le_refl _))
    clear hown hbel hinv
    by_cases hlt : k < l.length
    · obtain ⟨b, off, hcell⟩ : ∃ b off, a = some ⟨b, off, none⟩ ∧ b < w.heap.size ∧ w.cell? ⟨b, off + k, none⟩ = some (.int .i64 (l.getD k 0)) := by
        obtain ⟨a', cap', e, _, _, _, _, b, off, ha, hc⟩ := HH.out
        injection e with e1 e2 e3
        subst e1
        have h := ha (by intro h; simp [h] at hlt)
        exact ⟨b, off, h.1, h.2, hc k hlt⟩
      obtain ⟨rfl, hbw, hcw⟩ := hcell
      have hcx := (HB.out.cell (p := ⟨b, off + k, none⟩) hbw).trans hcw
      have h64k := H64.out.at k hlt
      have hmem : n = l.getD k 0 → n ∈ l := fun e => by rw [e]; exact getD_mem hlt
      have HLOW : Hid (db = false → l.getD k 0 ≠ n → ¬ n < l.getD k 0 → PutInv l n (k + 1) (xs ++ [l.getD k 0]) false) := fun e h1 h2 => by subst e; exact HIV.out.low hlt h1 h2
      have HFI : Hid (db = false → n < l.getD k 0 → PutInv l n (k + 1) (xs ++ [n] ++ [l.getD k 0]) true) := fun e h1 => by subst e; exact HIV.out.first hlt h1
      have HMO : Hid (db = true → l.getD k 0 ≠ n → PutInv l n (k + 1) (xs ++ [l.getD k 0]) true) := fun e h1 => by subst e; exact HIV.out.more hlt h1
      have hi0 : (0 : Int) ≤ (k : Int) := by omega
      have hi1 : (k : Int) < (l.length : Int) := by omega
      have hy1 := h64k.1
      have hy2 := h64k.2
      clear h64k
      generalize l.getD k 0 = y at *
      by_cases he : y = n
      · have HLE := Lib.hid (HPM.out (hmem he.symm))
        subst he
        have hyy : (y == y) = true := by simp
        clear hmem HLOW HFI HMO HIV
        go_wp2
        go_ret
        exact ⟨_, rfl, by rw [HLE.out]; exact HOW.out.below HB.out (Nat.le_refl _), HB.out⟩
      · have hyn : (y == n) = false := by simpa using he
        cases db with
        | true =>
          have HN := Lib.hid (HMO.out rfl he)
          clear hmem HLOW HFI HMO HIV he
          go_wp2_with (at_builtin; refine wpList_app1 rfl (.tmp 35) (.tmp 40) rfl w.heap.size _ xs y wr.heap.size rfl rfl (HO.out.alloc _) (cell_fresh rfl) (by omega) (by simp; omega) ?_; intro v1 w1 ho1 hg1; have HO1 := Lib.hid ho1; have HB1 := Lib.hid (below_app (HB.out.alloc hszr _) (HO.out.alloc _) (by simp; omega) hg1); clear ho1 hg1)
          go_roundw
          case rel => exact ⟨k + 1, _, true, by omega, by go_num, rfl, HO1.out, HB1.out, HN.out⟩
          case measure => simp [intOf]; omega
        | false =>
          by_cases hgt : n < y
          · have HN := Lib.hid (HFI.out rfl hgt)
            have hgd : decide (n < y) = true := by simpa using hgt
            clear hmem HLOW HFI HMO HIV he
            go_wp2_with (first
              | (at_builtin; refine wpList_app1 rfl (.tmp 35) (.tmp 40) rfl w.heap.size _ (xs ++ [n]) y w1.heap.size rfl rfl (HO1.out.alloc _) (cell_fresh rfl) (by simp; omega) (by have := HB1.out.size; simp; omega) ?_; intro v2 w2 ho2 hg2; have HO2 := Lib.hid ho2; have HB2 := Lib.hid (below_app (HB1.out.alloc HB1.out.size _) (HO1.out.alloc _) (by have := HB1.out.size; simp; omega) hg2); clear ho2 hg2)
              | (at_builtin; refine wpList_app1 rfl (.tmp 31) (.tmp 33) rfl w.heap.size _ xs n wr.heap.size rfl rfl (HO.out.alloc _) (cell_fresh rfl) (by omega) (by simp; omega) ?_; intro v1 w1 ho1 hg1; have HO1 := Lib.hid ho1; have HB1 := Lib.hid (below_app (HB.out.alloc hszr _) (HO.out.alloc _) (by simp; omega) hg1); have d1 : w1.cell? ⟨b, off + k, none⟩ = some (.int .i64 y) := (HB1.out.cell (p := ⟨b, off + k, none⟩) hbw).trans hcw; clear ho1 hg1))
            go_roundw
            case rel => exact ⟨k + 1, _, true, by omega, by go_num, rfl, HO2.out, HB2.out, HN.out⟩
            case measure => simp [intOf]; omega
          · have HN := Lib.hid (HLOW.out rfl he hgt)
            have hgd : decide (n < y) = false := by simpa using hgt
            clear hmem HLOW HFI HMO HIV he
            go_wp2_with (at_builtin; refine wpList_app1 rfl (.tmp 35) (.tmp 40) rfl w.heap.size _ xs y wr.heap.size rfl rfl (HO.out.alloc _) (cell_fresh rfl) (by omega) (by simp; omega) ?_; intro v1 w1 ho1 hg1; have HO1 := Lib.hid ho1; have HB1 := Lib.hid (below_app (HB.out.alloc hszr _) (HO.out.alloc _) (by simp; omega) hg1); clear ho1 hg1)
            go_roundw
            case rel => exact ⟨k + 1, _, false, by omega, by go_num, rfl, HO1.out, HB1.out, HN.out⟩
            case measure => simp [intOf]; omega
    · have hke : k = l.length := by omega
      subst hke
      cases db with
      | true =>
        have HE := Lib.hid HIV.out.done
        go_wp2
        go_ret
        exact ⟨_, rfl, by rw [← HE.out]; exact HO.out.mono HBW.out, HB.out⟩
      | false =>
        have HE := Lib.hid HIV.out.last
        go_wp2_with (at_builtin; refine wpList_app1 rfl (.tmp 44) (.tmp 46) rfl w.heap.size _ xs n wr.heap.size rfl rfl (HO.out.alloc _) (cell_fresh rfl) (by omega) (by simp; omega) ?_; intro v1 w1 ho1 hg1; have HO1 := Lib.hid ho1; have HB1 := Lib.hid (below_app (HB.out.alloc hszr _) (HO.out.alloc _) (by simp; omega) hg1); clear ho1 hg1)
        go_ret
        exact ⟨_, rfl, by rw [← HE.out]; exact HO1.out.mono HBW.out, HB1.out⟩

theorem own_shapeV {w : World} {B : Nat} {v : Value} {xs : List Int} (h : Own w B v xs) : ∃ a n c, v = .slice a n c := by
  obtain ⟨a, c, e⟩ := h.shapeA
  exact ⟨a, _, c, e⟩
def putAll (l : List Int) : List Int := l.foldl putL []
theorem putAll_snoc (l : List Int) (x : Int) : putAll (l ++ [x]) = putL (putAll l) x := by unfold putAll; rw [List.foldl_append]; rfl
theorem putP_perm (l : List Int) (n : Int) : (putP l n).Perm (n :: l) := by
  unfold putP
  refine List.perm_middle.trans ?_
  rw [List.takeWhile_append_dropWhile]
theorem putP_lt {l : List Int} {n : Int} (h : l.Pairwise (· < ·)) (hn : n ∉ l) : (putP l n).Pairwise (· < ·) := by
  unfold putP
  induction l with
  | nil => simp
  | cons x r ih =>
    rw [List.pairwise_cons] at h
    have hx : x ≠ n := fun e => hn (by rw [e]; exact List.mem_cons_self)
    have hr : n ∉ r := fun e => hn (List.mem_cons_of_mem _ e)
    by_cases hxn : x ≤ n
    · have e : leB n x = true := by unfold leB; simpa using hxn
      rw [List.takeWhile_cons_of_pos e, List.dropWhile_cons_of_pos e, List.cons_append, List.pairwise_cons]
      refine ⟨fun y hy => ?_, ih h.2 hr⟩
      have hy2 := (putP_perm r n).mem_iff.1 hy
      rcases List.mem_cons.1 hy2 with rfl | hy2
      · omega
      · exact h.1 y hy2
    · have e : ¬ (leB n x = true) := by unfold leB; simpa using hxn
      rw [List.takeWhile_cons_of_neg e, List.dropWhile_cons_of_neg e, List.nil_append, List.pairwise_cons, List.pairwise_cons]
      refine ⟨fun y hy => ?_, h⟩
      rcases List.mem_cons.1 hy with rfl | hy
      · omega
      · have := h.1 y hy; omega
theorem putAll_spec : ∀ (n : Nat) (l : List Int), l.length = n → l.Nodup → (putAll l).Pairwise (· < ·) ∧ (putAll l).Perm l := by
  intro n
  induction n with
  | zero => intro l hl _; rw [List.eq_nil_of_length_eq_zero hl]; exact ⟨List.Pairwise.nil, List.Perm.refl _⟩
  | succ n ih =>
    intro l hl hn
    have hne : l ≠ [] := fun e => by rw [e] at hl; cases hl
    obtain ⟨r, x, rfl⟩ : ∃ r x, l = r ++ [x] := ⟨l.dropLast, l.getLast hne, (List.dropLast_concat_getLast hne).symm⟩
    have h1 := List.nodup_append.1 hn
    obtain ⟨k1, k2⟩ := ih r (by simpa using hl) h1.1
    have hx : x ∉ putAll r := fun e => h1.2.2 x (k2.mem_iff.1 e) x (by simp) rfl
    rw [putAll_snoc]
    unfold putL
    rw [if_neg hx]
    refine ⟨putP_lt k1 hx, (putP_perm _ _).trans ?_⟩
    exact (List.Perm.cons x k2).trans (List.perm_append_comm (l₁ := [x]) (l₂ := r))
theorem putAll_asc {l : List Int} (h : l.Nodup) : putAll l = ascI l := by
  obtain ⟨h1, h2⟩ := putAll_spec _ l rfl h
  exact asc_eq (h2.trans (ascI_perm l).symm) (h1.imp (fun h => Int.le_of_lt h)) (ascI_sorted l)
theorem putL_len (l : List Int) (n : Int) : (putL l n).length ≤ l.length + 1 := by
  unfold putL
  split
  · omega
  · rw [putP_len]; omega
theorem putAll_len (l : List Int) : ∀ k, k ≤ l.length → (putAll (l.take k)).length ≤ k
  | 0, _ => by simp [putAll]
  | k + 1, hk => by
    have := putAll_len l k (by omega)
    rw [take_sn (by omega), putAll_snoc]
    have := putL_len (putAll (l.take k)) (l.getD k 0)
    omega
theorem putAll_64 (l : List Int) (h : In64 l) : ∀ k, k ≤ l.length → In64 (putAll (l.take k))
  | 0, _ => by simp [putAll, In64]
  | k + 1, hk => by
    rw [take_sn (by omega), putAll_snoc]
    have h2 := h (l.getD k 0) (getD_mem (by omega))
    exact putL_64 (putAll_64 l h k (by omega)) h2.1 (by omega)

set_option maxRecDepth 100000 in
set_option maxHeartbeats 1600000 in
theorem rvarsP_any (v : Value) (p : List Blk) (w : World) (H : IsBlocks w v p) (hp : (flatB p).length ≤ 4000000) (h64 : In64 (flatB p)) :
    Calls Tryz.prog 36 #[v] w (RetOwn w (putAll (flatB p))) := by
  have HF := Lib.hid (flat_any v p w H hp)
  obtain ⟨a, cap, rfl, _⟩ := H.shape
  have H64 := Lib.hid h64
  have HP := Lib.hid hp
  clear H hp h64
  go_enter Tryz.func36, Tryz.ntmps36
  go_wp2_with (go_at_call 53; refine HF.out.mono ?_; rintro e w1 ⟨u, rfl, ho1, hb1⟩; obtain ⟨fa, fc, rfl⟩ := ho1.shapeA)
  have HI := Lib.hid (ho1.ints (by have := HP.out; omega) H64.out)
  have hsz1 := hb1.size
  have HB1 := Lib.hid hb1
  clear ho1 hb1
  generalize flatB p = L at *
  go_loopw [3, 5] (fun out i wr => ∃ k : Nat, k ≤ L.length ∧ i = .int .i64 k ∧ Own wr w.heap.size out (putAll (L.take k)) ∧ Below w1.heap.size w1 wr) (fun _ i _ => L.length - (intOf i).toNat)
  case atStart => exact ⟨0, Nat.zero_le _, rfl, Own.nil _ _, Below.refl _ _⟩
  case round =>
    obtain ⟨k, hk, rfl, hown, hbel⟩ := hrel
    have hszr := hbel.size
    by_cases hlt : k < L.length
    · obtain ⟨oa, on, oc, rfl⟩ := own_shapeV hown
      obtain ⟨b, off, rfl, hb, hc0⟩ := HI.out.cellX hlt
      have hcx := (hbel.cell (p := ⟨b, off + k, none⟩) hb).trans hc0
      have HT := Lib.hid (take_sn hlt)
      have hx := H64.out (L.getD k 0) (getD_mem hlt)
      have hput := rputO_any w.heap.size (.slice oa on oc) (putAll (L.take k)) (L.getD k 0) wr hown (by omega) (putAll_64 L H64.out k (by omega)) (by have := putAll_len L k (by omega); have := HP.out; omega) hx.1 (by omega)
      have HPU := Lib.hid hput
      have hi0 : (0 : Int) ≤ (k : Int) := by omega
      have hi1 : (k : Int) < (L.length : Int) := by omega
      have hi2 : (k : Int) < 4000001 := by have := HP.out; omega
      have HBR := Lib.hid hbel
      have HKL := Lib.hid hlt
      clear hput hown hbel hc0 hx
      generalize L.getD k 0 = x at *
      go_wp2_with (go_at_call 72; refine HPU.out.mono ?_; rintro e w2 ⟨u2, rfl, ho2, hb2⟩)
      go_roundw
      case rel => exact ⟨k + 1, by have := HKL.out; omega, by go_num, by rw [HT.out, putAll_snoc]; exact ho2, HBR.out.trans (hb2.mono HBR.out.size)⟩
      case measure => have := HKL.out; simp [intOf]; omega
    · obtain rfl : k = L.length := by omega
      rw [List.take_length] at hown
      go_wp2
      go_ret
      exact ⟨_, rfl, hown, HB1.out.trans (hbel.mono hsz1)⟩
end Go.Proofs.YtmiijgjpkkmoaaaGreat

/- sorted of the statements: each block's variables ascending. -/
namespace Go.Proofs.YtmiijgjpkkmoaaaGreat
open Go.RowKit Go.Shelf Go.Lib
set_option linter.unusedVariables false
set_option linter.unusedSimpArgs false

theorem IsTwo.oneX {α : Type} {enc : α → Value} {d : α × List Int} {w : World} {b off n cap : Nat} {l : List (α × List Int)} (h : IsTwo enc d w (.slice (some ⟨b, off, none⟩) n cap) l) {k : Nat} (hk : k < l.length) :
    IsTwo enc d w (.slice (some ⟨b, off + k * 2, none⟩) 1 (cap - k)) [l.getD k d] := by
  obtain ⟨a', cap', e, ⟨hc1, hc2⟩, hcm, hl, b', off', ha, hc⟩ := h
  injection e with e1 e2 e3
  subst e1; subst e3
  obtain ⟨ha1, ha2⟩ := ha (fun e => by rw [e] at hk; cases hk)
  injection ha1 with ha1
  injection ha1 with hb ho _
  subst hb; subst ho
  refine ⟨_, cap - k, rfl, ⟨by simp only [List.length_cons, List.length_nil]; omega, fun h => by cases h⟩, by omega, by simp, b, off + k * 2, fun _ => ⟨rfl, ha2⟩, fun j hj => ?_⟩
  simp only [List.length_cons, List.length_nil] at hj
  obtain rfl : j = 0 := by omega
  have := hc k hk
  simpa using this
theorem flat_one (b : Blk) : flatB [b] = b.2 := by unfold flatB; simp

end Go.Proofs.YtmiijgjpkkmoaaaGreat
