/- The reference's rest: the open literals of a clause. -/
import Derived.Test.YtkcbicakcjflkaaDoorAsgVal
namespace Go.Proofs.YtkcbicakcjflkaaDoor
open Go.RowKit
set_option linter.unusedVariables false

def openB (a : List Int) (x : Int) : Bool := valL a x == 0
def restL (a c : List Int) : List Int := c.filter (openB a)

set_option maxHeartbeats 800000 in
set_option maxRecDepth 100000 in
theorem rrest_any (u v : Value) (m l : List Int) (w : World) (K : IsInts w u m) (H : IsInts w v l) :
    Calls Tryd.prog 58 #[u, v] w (RetOwn w (restL m l)) := by
  have H0 := H
  obtain ⟨a, cap, rfl, _, _, hl, h64, b, off, ha, hc⟩ := H
  obtain ⟨a2, cap2, rfl⟩ := K.shape
  have HC := Lib.hid hc
  clear hc
  go_enter Tryd.func58, Tryd.ntmps58
  go_wp2
  go_loopw [5, 6] (fun out i wr => ∃ k : Nat, k ≤ l.length ∧ i = .int .i64 k ∧ Own wr w.heap.size out ((l.take k).filter (openB m)) ∧ Below w.heap.size w wr) (fun _ i _ => l.length - (intOf i).toNat)
  case atStart => exact ⟨0, Nat.zero_le _, rfl, Own.nil _ _, Below.refl _ _⟩
  case round =>
    obtain ⟨k, hk, rfl, hown, hbel⟩ := hrel
    by_cases hlt : k < l.length
    · obtain ⟨rfl, hb⟩ := ha (by intro h; simp [h] at hlt)
      have hy := (hbel.cell (p := ⟨b, off + k, none⟩) hb).trans (HC.out k hlt)
      have hy1 := (h64.at k hlt).1
      have hy2 := (h64.at k hlt).2
      have hle := filter_take_le (openB m) l k hk
      have hsz := hbel.size
      have HK := K.below hbel (Nat.le_refl _)
      by_cases hp : openB m (l.getD k 0) = true
      · have HT := Lib.hid (filter_take_hit hlt hp)
        have hne : (valL m (l.getD k 0) == 0) = true := hp
        clear hp
        generalize l.getD k 0 = y at *
        go_wp2_with (first | (go_at_call 14; refine (ravalue_any _ m y _ HK hy1 hy2).mono ?_; rintro e wv ⟨rfl, hq⟩; have hown1 := hown.quiet hq; have hbel1 := hbel.trans (hq.below _); have hyq := (hq.cell _).trans hy; have hszq := hbel1.size) | (at_builtin; refine wpList_app1 rfl _ _ rfl w.heap.size _ _ y wv.heap.size rfl rfl (hown1.alloc _) (by simp) (by omega) (by simp; omega) ?_; intro v' w' hown' hg'))
        go_roundw
        case rel => exact ⟨k + 1, by omega, by go_num, by rw [HT.out]; exact hown', below_app (hbel1.alloc (by omega) _) (hown1.alloc _) (by simp; omega) hg'⟩
        case measure => simp [intOf]; omega
      · have hp' : openB m (l.getD k 0) = false := by simpa using hp
        have HT := Lib.hid (filter_take_miss hlt hp')
        have hne : (valL m (l.getD k 0) == 0) = false := hp'
        clear hp hp'
        generalize l.getD k 0 = y at *
        go_wp2_with (go_at_call 14; refine (ravalue_any _ m y _ HK hy1 hy2).mono ?_; rintro e wv ⟨rfl, hq⟩; have hown1 := hown.quiet hq; have hbel1 := hbel.trans (hq.below _); have hyq := (hq.cell _).trans hy; have hszq := hbel1.size)
        go_roundw
        case rel => exact ⟨k + 1, by omega, by go_num, by rw [HT.out]; exact hown1, hbel1⟩
        case measure => simp [intOf]; omega
    · have hown2 := hown
      rw [List.take_of_length_le (by omega)] at hown2
      clear hown
      go_wp2
      go_ret
      exact ⟨_, rfl, hown2, hbel⟩

end Go.Proofs.YtkcbicakcjflkaaDoor
