/- The reference's Read. -/
import Derived.Test.YtnedpngadfkmiaaDoorRReadP
import Derived.Test.YtnedpngadfkmiaaDoorOwn
import Derived.Test.YtnedpngadfkmiaaDoorNormR
namespace Go.Proofs.YtnedpngadfkmiaaDoor
open Go.RowKit Go.Lib
set_option linter.unusedVariables false

theorem bytes_getD {s : ByteArray} {k : Nat} (h : k < s.size) : s[k] = s.data.toList.getD k 0 := by
  have hk : k < s.data.size := h
  have e : s.data[k]? = some s.data[k] := Array.getElem?_eq_getElem hk
  simp [List.getD, e]
  rfl

set_option maxHeartbeats 2000000 in
set_option maxRecDepth 100000 in
theorem rread_any (s : ByteArray) (w : World) (hs : s.size ≤ 1000000) : Calls Tryd.prog 55 #[.string s] w (RetPair w (readL s.data.toList)) := by
  have hbl : s.data.toList.length = s.size := by simp
  obtain ⟨b, hB⟩ : ∃ b, b = s.data.toList := ⟨_, rfl⟩
  have hget : ∀ k, (h : k < s.size) → s[k] = b.getD k 0 := fun k h => by rw [hB]; exact bytes_getD h
  have hsb : s = ⟨b.toArray⟩ := by rw [hB]
  rw [← hB] at hbl ⊢
  have HG := Lib.hid hget
  have HL := Lib.hid hbl
  have HSB := Lib.hid hsb
  have hst := Fol.start b
  clear hbl hget hB hsb
  go_enter Tryd.func55, Tryd.ntmps55
  go_wp2
  go_loopw [4, 5] (fun out i wr => ∃ (k : Nat) (acc : List Int), k ≤ s.size + 1 ∧ i = .int .i64 k ∧ Own wr w.heap.size out acc ∧ acc.length ≤ k ∧ In64 acc ∧ Below w.heap.size w wr ∧ Fol b k acc) (fun _ i _ => s.size + 1 - (intOf i).toNat)
  case atStart => exact ⟨0, [], by omega, rfl, Own.nil _ _, by simp, In64.nil, Below.refl _ _, hst⟩
  case round =>
    obtain ⟨k, acc, hk, rfl, hown, hal, ha64, hbel, hfol⟩ := hrel
    have hsz := hbel.size
    have HF := Lib.hid hfol
    clear hfol hst
    by_cases hlt : k < s.size
    · have hgk := HG.out k hlt
      have HTD := Lib.hid (tail_drop (b := b) (k := k) (by rw [HL.out]; exact hlt))
      by_cases h45 : s[k] = 45
      · have e45 : (s[k].toNat : Int) = 45 := by rw [h45]; rfl
        have e45' : ((s[k].toNat : Int) == 45) = true := by simp [e45]
        have HS0 : Hid (sgn (b.getD k 0) = -1 ∧ tailOf (b.getD k 0) (b.drop (k + 1)) = b.drop (k + 1)) := by
          show _ ∧ _
          rw [← hgk, h45] at *
          exact ⟨by unfold sgn; rw [if_pos rfl], by unfold tailOf; rw [if_pos rfl]⟩
        clear HTD hgk h45 e45
        go_wp2
        go_loop [5, 7] (fun i m => ∃ (j : Nat) (n : Int), j ≤ s.size ∧ i = .int .i64 j ∧ m = .int .i64 n ∧ 0 ≤ n ∧ n ≤ 655369 ∧ k ≤ j ∧ scanN 0 (b.drop (k + 1)) = scanN n (b.drop j)) (fun i _ => s.size - (intOf i).toNat)
        case atStart => exact ⟨k + 1, 0, by omega, by go_num, rfl, by omega, by omega, by omega, rfl⟩
        case round =>
          obtain ⟨j, n, hj, rfl, rfl, hn0, hn1, hkj, hsc⟩ := hrel
          have HSC := Lib.hid hsc
          clear hsc
          by_cases hjl : j < s.size
          · have hgj := HG.out j hjl
            have HYes := Lib.hid (scan_drop_yes (b := b) (j := j) (n := n) (by rw [HL.out]; exact hjl))
            have HNo := Lib.hid (scan_drop_no (b := b) (j := j) (n := n))
            have hu := s[j].toNat_lt
            have HNE := Lib.hid (show (s[j].toNat : Int) ≠ 32 → b.getD j 0 ≠ 32 from fun h e => h (by rw [hgj, e]; rfl))
            rw [← hgj] at HYes HNo
            have HGJ := Lib.hid hgj
            clear hgj
            by_cases hd : 48 ≤ (s[j].toNat : Int) ∧ (s[j].toNat : Int) ≤ 57 ∧ n ≤ 65536
            · have HS2 := Lib.hid (HSC.out.trans (HYes.out hd))
              obtain ⟨hd1, hd2, hd3⟩ := hd
              clear HYes HNo HSC HNE
              go_wp2
              go_round
              case rel => exact ⟨j + 1, _, by omega, by go_num, rfl, by omega, by omega, by omega, HS2.out⟩
              case measure => simp [intOf]; omega
            · have HS2 : Hid (scanN 0 (tailOf (b.getD k 0) (b.drop (k + 1))) = (n, b.drop j)) := by
                show _ = _
                rw [HS0.out.2, HSC.out]; exact HNo.out (fun h => hd h.2)
              clear HYes HNo HSC
              by_cases h32 : (s[j].toNat : Int) = 32
              · have e32 : ((s[j].toNat : Int) != 32) = false := by simp [h32]
                have hlo : ¬ 48 ≤ (s[j].toNat : Int) := by omega
                have HN := Lib.hid (Fol.step (by rw [HL.out]; exact hlt) HF.out (by rw [HL.out]; omega) HS2.out)
                clear hd h32 HNE
                go_wp2_with (at_builtin; refine wpList_app1 rfl _ _ rfl w.heap.size _ _ (-n) wr.heap.size rfl rfl (hown.alloc _) (by simp) (by omega) (by simp; omega) ?_; intro v' w' hown' hg')
                go_roundw
                case rel => exact ⟨j + 1, _, by omega, by go_num, hown', by simp; omega, ha64.append (In64.one (by omega) (by omega)), below_app (hbel.alloc (by omega) _) (hown.alloc _) (by simp; omega) hg', by have := HN.out; rw [HS0.out.1] at this; rw [Int.neg_one_mul] at this; exact this⟩
                case measure => simp [intOf]; omega
              · have e32 : ((s[j].toNat : Int) != 32) = true := by simp [h32]
                have HB := Lib.hid (Fol.bad (by rw [HL.out]; exact hlt) HF.out (by rw [HL.out]; exact hjl) HS2.out (HNE.out h32))
                have h3 : ¬ 48 ≤ (s[j].toNat : Int) ∨ (48 ≤ (s[j].toNat : Int) ∧ 57 < (s[j].toNat : Int)) ∨ (48 ≤ (s[j].toNat : Int) ∧ (s[j].toNat : Int) ≤ 57 ∧ 65536 < n) := by omega
                clear hd h32 HNE HS0
                rcases h3 with h3 | ⟨h3, h4⟩ | ⟨h3, h4, h5⟩
                all_goals
                  go_wp2_with (at_builtin; refine wpList_app1 rfl _ _ rfl w.heap.size _ _ (-n) wr.heap.size rfl rfl (hown.alloc _) (by simp) (by omega) (by simp; omega) ?_; intro v' w' hown' hg')
                  go_ret2
                  exact ⟨_, ret_pair (by rw [HB.out]), by rw [HB.out]; exact IsInts.nil _, below_app (hbel.alloc (by omega) _) (hown.alloc _) (by simp; omega) hg'⟩
          · have HS2 : Hid (scanN 0 (tailOf (b.getD k 0) (b.drop (k + 1))) = (n, b.drop j)) := by
              show _ = _
              rw [HS0.out.2, HSC.out]; exact scan_drop_no (fun h => hjl (by rw [← HL.out]; exact h.1))
            have HN := Lib.hid (Fol.step (by rw [HL.out]; exact hlt) HF.out (by rw [HL.out]; omega) HS2.out)
            clear HSC
            go_wp2_with (at_builtin; refine wpList_app1 rfl _ _ rfl w.heap.size _ _ (-n) wr.heap.size rfl rfl (hown.alloc _) (by simp) (by omega) (by simp; omega) ?_; intro v' w' hown' hg')
            go_roundw
            case rel => exact ⟨j + 1, _, by omega, by go_num, hown', by simp; omega, ha64.append (In64.one (by omega) (by omega)), below_app (hbel.alloc (by omega) _) (hown.alloc _) (by simp; omega) hg', by have := HN.out; rw [HS0.out.1] at this; rw [Int.neg_one_mul] at this; exact this⟩
            case measure => simp [intOf]; omega
      · have e45' : ((s[k].toNat : Int) == 45) = false := by
          rw [beq_eq_false_iff_ne]
          intro e
          exact h45 (UInt8.toNat_inj.1 (by rw [show (45 : UInt8).toNat = 45 from rfl]; omega))
        have HS0 : Hid (sgn (b.getD k 0) = 1 ∧ tailOf (b.getD k 0) (b.drop (k + 1)) = b.drop k) := by
          show _ ∧ _
          rw [HTD.out, ← hgk]
          exact ⟨by unfold sgn; rw [if_neg h45], by rw [if_neg h45]⟩
        clear HTD hgk h45
        go_wp2
        go_loop [5, 7] (fun i m => ∃ (j : Nat) (n : Int), j ≤ s.size ∧ i = .int .i64 j ∧ m = .int .i64 n ∧ 0 ≤ n ∧ n ≤ 655369 ∧ k ≤ j ∧ scanN 0 (b.drop (k)) = scanN n (b.drop j)) (fun i _ => s.size - (intOf i).toNat)
        case atStart => exact ⟨k, 0, by omega, by go_num, rfl, by omega, by omega, by omega, rfl⟩
        case round =>
          obtain ⟨j, n, hj, rfl, rfl, hn0, hn1, hkj, hsc⟩ := hrel
          have HSC := Lib.hid hsc
          clear hsc
          by_cases hjl : j < s.size
          · have hgj := HG.out j hjl
            have HYes := Lib.hid (scan_drop_yes (b := b) (j := j) (n := n) (by rw [HL.out]; exact hjl))
            have HNo := Lib.hid (scan_drop_no (b := b) (j := j) (n := n))
            have hu := s[j].toNat_lt
            have HNE := Lib.hid (show (s[j].toNat : Int) ≠ 32 → b.getD j 0 ≠ 32 from fun h e => h (by rw [hgj, e]; rfl))
            rw [← hgj] at HYes HNo
            have HGJ := Lib.hid hgj
            clear hgj
            by_cases hd : 48 ≤ (s[j].toNat : Int) ∧ (s[j].toNat : Int) ≤ 57 ∧ n ≤ 65536
            · have HS2 := Lib.hid (HSC.out.trans (HYes.out hd))
              obtain ⟨hd1, hd2, hd3⟩ := hd
              clear HYes HNo HSC HNE
              go_wp2
              go_round
              case rel => exact ⟨j + 1, _, by omega, by go_num, rfl, by omega, by omega, by omega, HS2.out⟩
              case measure => simp [intOf]; omega
            · have HS2 : Hid (scanN 0 (tailOf (b.getD k 0) (b.drop (k + 1))) = (n, b.drop j)) := by
                show _ = _
                rw [HS0.out.2, HSC.out]; exact HNo.out (fun h => hd h.2)
              clear HYes HNo HSC
              by_cases h32 : (s[j].toNat : Int) = 32
              · have e32 : ((s[j].toNat : Int) != 32) = false := by simp [h32]
                have hlo : ¬ 48 ≤ (s[j].toNat : Int) := by omega
                have HN := Lib.hid (Fol.step (by rw [HL.out]; exact hlt) HF.out (by rw [HL.out]; omega) HS2.out)
                clear hd h32 HNE
                go_wp2_with (at_builtin; refine wpList_app1 rfl _ _ rfl w.heap.size _ _ (n) wr.heap.size rfl rfl (hown.alloc _) (by simp) (by omega) (by simp; omega) ?_; intro v' w' hown' hg')
                go_roundw
                case rel => exact ⟨j + 1, _, by omega, by go_num, hown', by simp; omega, ha64.append (In64.one (by omega) (by omega)), below_app (hbel.alloc (by omega) _) (hown.alloc _) (by simp; omega) hg', by have := HN.out; rw [HS0.out.1] at this; rw [Int.one_mul] at this; exact this⟩
                case measure => simp [intOf]; omega
              · have e32 : ((s[j].toNat : Int) != 32) = true := by simp [h32]
                have HB := Lib.hid (Fol.bad (by rw [HL.out]; exact hlt) HF.out (by rw [HL.out]; exact hjl) HS2.out (HNE.out h32))
                have h3 : ¬ 48 ≤ (s[j].toNat : Int) ∨ (48 ≤ (s[j].toNat : Int) ∧ 57 < (s[j].toNat : Int)) ∨ (48 ≤ (s[j].toNat : Int) ∧ (s[j].toNat : Int) ≤ 57 ∧ 65536 < n) := by omega
                clear hd h32 HNE HS0
                rcases h3 with h3 | ⟨h3, h4⟩ | ⟨h3, h4, h5⟩
                all_goals
                  go_wp2_with (at_builtin; refine wpList_app1 rfl _ _ rfl w.heap.size _ _ (n) wr.heap.size rfl rfl (hown.alloc _) (by simp) (by omega) (by simp; omega) ?_; intro v' w' hown' hg')
                  go_ret2
                  exact ⟨_, ret_pair (by rw [HB.out]), by rw [HB.out]; exact IsInts.nil _, below_app (hbel.alloc (by omega) _) (hown.alloc _) (by simp; omega) hg'⟩
          · have HS2 : Hid (scanN 0 (tailOf (b.getD k 0) (b.drop (k + 1))) = (n, b.drop j)) := by
              show _ = _
              rw [HS0.out.2, HSC.out]; exact scan_drop_no (fun h => hjl (by rw [← HL.out]; exact h.1))
            have HN := Lib.hid (Fol.step (by rw [HL.out]; exact hlt) HF.out (by rw [HL.out]; omega) HS2.out)
            clear HSC
            go_wp2_with (at_builtin; refine wpList_app1 rfl _ _ rfl w.heap.size _ _ (n) wr.heap.size rfl rfl (hown.alloc _) (by simp) (by omega) (by simp; omega) ?_; intro v' w' hown' hg')
            go_roundw
            case rel => exact ⟨j + 1, _, by omega, by go_num, hown', by simp; omega, ha64.append (In64.one (by omega) (by omega)), below_app (hbel.alloc (by omega) _) (hown.alloc _) (by simp; omega) hg', by have := HN.out; rw [HS0.out.1] at this; rw [Int.one_mul] at this; exact this⟩
            case measure => simp [intOf]; omega
    · have hi := hown.ints (by omega) ha64
      have hbk : b.length ≤ k := by rw [HL.out]; omega
      have hc : ∀ W, IsInts W u4 acc → Calls Tryd.prog 53 #[u4] W (fun e w' => e = .returned (.tuple #[.string ⟨(textL acc).toArray⟩, .int .i64 (codeT acc)]) ∧ Below W.heap.size W w') := fun W h => rtext_any _ acc W h
      have HC := Lib.hid (hc wr hi)
      by_cases hma : mayB acc = true
      · have e1 : (codeT acc != 0) = false := by unfold codeT; rw [if_pos hma]; rfl
        by_cases ht : textB acc = b
        · have HR := Lib.hid (readL_iff b acc hma ht)
          have HTX : Hid ((⟨(textL acc).toArray⟩ : ByteArray) = s) := by show _ = _; unfold textL; rw [if_pos hma, ht, HSB.out]
          clear hma ht hc hbk
          go_wp2_with fail
          refine HC.out.mono ?_
          rintro e w1 ⟨rfl, hb1⟩
          rw [HTX.out]
          go_wp2
          go_ret2
          exact ⟨_, ret_pair (by rw [HR.out]), by rw [HR.out]; exact hi.below hb1 (Nat.le_refl _), hbel.trans (hb1.mono hsz)⟩
        · have HR := Lib.hid (HF.out.fin hbk (fun h => ht h.2))
          have hne : ¬ ((⟨(textL acc).toArray⟩ : ByteArray) = s) := by
            unfold textL; rw [if_pos hma, HSB.out]; intro e; exact ht (by injection e with e; injection e)
          generalize (⟨(textL acc).toArray⟩ : ByteArray) = u at *
          have HC2 := Lib.hid HC.out
          have hne1 : (u.toList == s.toList) = false := by
            rw [beq_eq_false_iff_ne, Lib.toList_data, Lib.toList_data]
            intro e
            exact hne (ByteArray.ext (Array.toList_inj.1 e))
          clear hma ht hc hbk HC
          go_wp2_with fail
          refine HC2.out.mono ?_
          rintro e w1 ⟨rfl, hb1⟩
          go_wp2
          go_ret2
          exact ⟨_, ret_pair (by rw [HR.out]), by rw [HR.out]; exact IsInts.nil _, hbel.trans (hb1.mono hsz)⟩
      · have e1 : (codeT acc != 0) = true := by unfold codeT; rw [if_neg hma]; rfl
        have HR := Lib.hid (HF.out.fin hbk (fun h => hma h.1))
        clear hma hc hbk
        go_wp2_with fail
        refine HC.out.mono ?_
        rintro e w1 ⟨rfl, hb1⟩
        go_wp2
        go_ret2
        exact ⟨_, ret_pair (by rw [HR.out]), by rw [HR.out]; exact IsInts.nil _, hbel.trans (hb1.mono hsz)⟩

end Go.Proofs.YtnedpngadfkmiaaDoor
