/- slices.symMergeCmpFunc at rows of a Dqbf. -/
import Derived.Test.YtmiijgjpkkmoaaaGreatMpN
namespace Go.Proofs.YtmiijgjpkkmoaaaGreat
open Go.RowKit Go.Shelf Go.Lib Go.Sort
set_option linter.unusedVariables false
set_option linter.unusedSimpArgs false

theorem half_lt {i j : Nat} (h : i < j) : i ≤ (i + j) / 2 ∧ (i + j) / 2 < j := by omega
theorem half_int (i j : Nat) : ((i : Int) + (j : Int)) / 2 = (((i + j) / 2 : Nat) : Int) := by omega
/-- What the test of two rows wants. -/
theorem swd_test {w0 w : World} {blk : Nat} {d0 d : Array DepV} (S : SWD w0 blk d w) (R : RowD w0 blk d0) (hs : d0.size = d.size) (HC : CmpLays Tryz.prog 42 #[] encD 2 cfD blk 0 d0.size w0) (p q : Nat) (hp : p < d.size) (hq : q < d.size) :
    ∃ X Y : DepV, Hid (d[p]! = X ∧ d[q]! = Y) ∧
    (∀ n os, (grow (w.drewN n) os).cell? ⟨blk, p * 2, none⟩ = some (.int .i64 X.v)) ∧ (∀ n os, (grow (w.drewN n) os).cell? ⟨blk, p * 2 + 1, none⟩ = some (.slice X.a X.l.length X.c)) ∧
    (∀ n os, (grow (w.drewN n) os).cell? ⟨blk, q * 2, none⟩ = some (.int .i64 Y.v)) ∧ (∀ n os, (grow (w.drewN n) os).cell? ⟨blk, q * 2 + 1, none⟩ = some (.slice Y.a Y.l.length Y.c)) ∧
    (∀ n os, Calls Tryz.prog 42 #[.agg #[.int .i64 X.v, .slice X.a X.l.length X.c], .agg #[.int .i64 Y.v, .slice Y.a Y.l.length Y.c]] (grow (w.drewN n) os) fun e w' => e = .returned (.int .i64 (cfD X Y)) ∧ ∃ m os', w' = grow ((grow (w.drewN n) os).drewN m) os') :=
  ⟨d[p]!, d[q]!, ⟨rfl, rfl⟩, fun n os => (swd_at (S.grown n os) R hs hp).1, fun n os => (swd_at (S.grown n os) R hs hp).2.1, fun n os => (swd_at (S.grown n os) R hs hq).1, fun n os => (swd_at (S.grown n os) R hs hq).2.1, fun n os => S.cmp HC hs.symm _ _ n os⟩

set_option maxHeartbeats 16000000 in
set_option maxRecDepth 1000000 in
theorem symone_any (blk cap a b : Nat) (d0 d : Array DepV) (w0 w : World) (R : RowD w0 blk d0) (hs : d0.size = d.size) (S : SWD w0 blk d w) (hb : b ≤ d.size) (hsz : d.size < 2305843009213693952) (ham : a + 1 < b) (hM : Mrg (ltOf cfD) keyLt d a (a + 1) b) (mz : Int) (hmz : mz = (a : Int) + 1) :
    Calls Tryz.prog 103 #[.slice (some ⟨blk, 0, none⟩) d.size cap, .int .i64 a, .int .i64 mz, .int .i64 b, .func (.func 42) #[] #[]] w fun e w' =>
      e = .returned (.tuple #[]) ∧ ∃ d', SWD w0 blk d' w' ∧ PermIn a b d d' ∧ Asc keyLt d' a b := by
  have S0 : Aside (SWD w0 blk d w) := S
  have HM := Lib.hid hM
  have HC := Lib.hid (cmpLaysD blk 0 d0.size w0)
  clear S hM
  have mixed : Tryz.prog.follows Departure.mixedOrders = true := by kernel_rfl
  have e1 : mz - (a : Int) = 1 := by omega
  have HZ := Lib.hid hmz
  clear hmz
  go_enter Tryz.func103, Tryz.ntmps103
  go_wp2
  go_loopg [10, 11] b (fun kx si sj wr => ∃ (i j : Nat), si = .int .i64 i ∧ sj = .int .i64 j ∧ j - i ≤ kx ∧ Aside (SWD w0 blk d wr) ∧ Hid (SrU (ltOf cfD) d a b i j))
  case atStart => exact ⟨a + 1, b, by rw [HZ.out]; go_num, rfl, by omega, S0, ⟨by omega, by omega, Nat.le_refl _, Or.inl rfl, Or.inl rfl⟩⟩
  case round =>
    clear S0
    obtain ⟨i, j, rfl, rfl, hkx, S1, HS⟩ := hrel
    have hij1 : i ≤ j := HS.out.2.1
    have hjb : j ≤ b := HS.out.2.2.1
    have hai : a < i := HS.out.1
    by_cases hij : i < j
    · obtain ⟨h, hh⟩ : ∃ h, (i + j) / 2 = h := ⟨_, rfl⟩
      have hhl := half_lt hij
      rw [hh] at hhl
      have hz : ((i : Int) + (j : Int)) / 2 = (h : Int) := by rw [half_int, hh]
      have hijz : (i : Int) < (j : Int) := by omega
      obtain ⟨X, Y, HXY, lx0, lx1, ly0, ly1, hc⟩ := swd_test S1.out R hs HC.out h a (by omega) (by omega)
      have bh0 : (0 : Int) ≤ (h : Int) := by omega
      have bh1 : (h : Int) < (d.size : Int) := by omega
      have ba0 : (0 : Int) ≤ (a : Int) := by omega
      have ba1 : (a : Int) < (d.size : Int) := by omega
      by_cases hlv : cfD X Y < 0
      · have HN : Hid (SrU (ltOf cfD) d a b (h + 1) j) := ⟨by omega, by omega, hjb, Or.inr (by rw [Nat.add_sub_cancel, HXY.out.1, HXY.out.2]; exact decide_eq_true hlv), HS.out.2.2.2.2⟩
        have hd : decide (cfD X Y < 0) = true := decide_eq_true hlv
        go_wp2_with fail
        go_quiet_grown (first | (go_at_call 42; refine Calls.grown_of (hc _ _)))
        have S2 : Aside (SWD w0 blk d (grow (wr.drewN nq) osq)) := S1.out.grown nq osq
        clear lx0 lx1 ly0 ly1 hc S1
        generalize grow (wr.drewN nq) osq = w2 at S2 ⊢
        clear nq osq
        go_wp2
        go_roundg (j - (h + 1))
        case measure => omega
        case rel => exact ⟨h + 1, j, by go_num, rfl, Nat.le_refl _, S2, HN⟩
      · have HN : Hid (SrU (ltOf cfD) d a b i h) := ⟨hai, by omega, by omega, HS.out.2.2.2.1, Or.inr (by rw [HXY.out.1, HXY.out.2]; exact decide_eq_false hlv)⟩
        have hd : decide (cfD X Y < 0) = false := decide_eq_false hlv
        go_wp2_with fail
        go_quiet_grown (first | (go_at_call 42; refine Calls.grown_of (hc _ _)))
        have S2 : Aside (SWD w0 blk d (grow (wr.drewN nq) osq)) := S1.out.grown nq osq
        clear lx0 lx1 ly0 ly1 hc S1
        generalize grow (wr.drewN nq) osq = w2 at S2 ⊢
        clear nq osq
        go_wp2
        go_roundg (h - i)
        case measure => omega
        case rel => exact ⟨i, h, rfl, rfl, Nat.le_refl _, S2, HN⟩
    · obtain rfl : i = j := by omega
      have hii : ¬ ((i : Int) < (i : Int)) := by omega
      go_wp2
      go_loopg [13] b (fun kx sk wr => ∃ (k : Nat) (dk : Array DepV), sk = .int .i64 k ∧ a ≤ k ∧ k + 1 ≤ i ∧ i - k ≤ kx ∧ Aside (SWD w0 blk dk wr) ∧ Hid (Ups d dk a k) ∧ Hid (PermIn a b d dk))
      case atStart => exact ⟨a, d, rfl, Nat.le_refl _, by omega, by omega, S1, Ups.zero d a, permIn_refl _ _ _⟩
      case round =>
        clear S1
        obtain ⟨k, dk, rfl, hak, hki, hkx2, S1, HU, HP⟩ := hrel
        have hds : dk.size = d.size := HP.out.1
        by_cases hk : k + 1 < i
        · have hkz : (k : Int) < (i : Int) - 1 := by omega
          have HN : Hid (Ups d (swp dk k (k + 1)) a (k + 1) ∧ PermIn a b d (swp dk k (k + 1))) := ⟨HU.out.step hak (by omega), permIn_trans _ _ _ _ _ HP.out (swp_permIn dk a b k (k + 1) (by omega) (by omega) (by omega) (by omega) (by omega))⟩
          go_wp2_with fail
          have ea : ((k : Int)).toNat = k := by omega
          have pa : (0 : Int) ≤ (k : Int) := by omega
          have ba : (k : Int) < (d.size : Int) := by omega
          have ec : ((k : Int) + 1).toNat = k + 1 := by omega
          have pc : (0 : Int) ≤ (k : Int) + 1 := by omega
          have bc : (k : Int) + 1 < (d.size : Int) := by omega
          have rc : IntKind.i64.wrap ((k : Int) + 1) = (k : Int) + 1 := by rw [IntKind.wrap_i64]; omega
          obtain ⟨X, Y, ⟨x0, x1, x2, x3⟩, ⟨y0, y1, y2, y3⟩, ⟨g0, g1, g2, g3, g4, g5⟩, S2⟩ := swd_swap S1.out R (by omega) k (k + 1) (by omega) (by omega) (by omega)
          clear S1
          go_region
          clear g0 g1 g2 g3 g4 g5 x0 x1 x2 x3 y0 y1 y2 y3
          generalize ((((wr.setCell ⟨blk, k * 2, none⟩ (Value.int .i64 Y.v)).setCell ⟨blk, k * 2 + 1, none⟩ (Value.slice Y.a Y.l.length Y.c)).setCell ⟨blk, (k + 1) * 2, none⟩ (Value.int .i64 X.v)).setCell ⟨blk, (k + 1) * 2 + 1, none⟩ (Value.slice X.a X.l.length X.c)).drew = w2 at S2 ⊢
          go_wp2
          go_roundg (i - (k + 1))
          case measure => omega
          case rel => exact ⟨k + 1, swp dk k (k + 1), by go_num, by omega, by omega, Nat.le_refl _, S2, HN.out.1, HN.out.2⟩
        · have hkz : ¬ ((k : Int) < (i : Int) - 1) := by omega
          obtain rfl : k = i - 1 := by omega
          have HA : Hid (Asc keyLt dk a b) := SrU.done keyLt_trans HS.out HM.out HU.out
          go_wp2
          refine bodyPost_ret (results_none rfl _ _ _) rfl ?_
          exact ⟨rfl, dk, S1.out, HP.out, HA.out⟩

set_option maxHeartbeats 16000000 in
set_option maxRecDepth 1000000 in
theorem symlast_any (blk cap a m : Nat) (d0 d : Array DepV) (w0 w : World) (R : RowD w0 blk d0) (hs : d0.size = d.size) (S : SWD w0 blk d w) (hb : m + 1 ≤ d.size) (hsz : d.size < 2305843009213693952) (ham : a + 1 < m) (hM : Mrg (ltOf cfD) keyLt d a m (m + 1)) (bz : Int) (hbz : bz = (m : Int) + 1) :
    Calls Tryz.prog 103 #[.slice (some ⟨blk, 0, none⟩) d.size cap, .int .i64 a, .int .i64 m, .int .i64 bz, .func (.func 42) #[] #[]] w fun e w' =>
      e = .returned (.tuple #[]) ∧ ∃ d', SWD w0 blk d' w' ∧ PermIn a (m + 1) d d' ∧ Asc keyLt d' a (m + 1) := by
  have S0 : Aside (SWD w0 blk d w) := S
  have HM := Lib.hid hM
  have HC := Lib.hid (cmpLaysD blk 0 d0.size w0)
  clear S hM
  have mixed : Tryz.prog.follows Departure.mixedOrders = true := by kernel_rfl
  have e0 : ((m : Int) - (a : Int) == 1) = false := beq_eq_false_iff_ne.2 (by omega)
  have e1 : bz - (m : Int) = 1 := by omega
  clear hbz
  go_enter Tryz.func103, Tryz.ntmps103
  go_wp2
  go_loopg [14, 15] m (fun kx si sj wr => ∃ (i j : Nat), si = .int .i64 i ∧ sj = .int .i64 j ∧ j - i ≤ kx ∧ Aside (SWD w0 blk d wr) ∧ Hid (SrD (ltOf cfD) d a m i j))
  case atStart => exact ⟨a, m, rfl, rfl, by omega, S0, ⟨by omega, by omega, Nat.le_refl _, Or.inl rfl, Or.inl rfl⟩⟩
  case round =>
    clear S0
    obtain ⟨i, j, rfl, rfl, hkx, S1, HS⟩ := hrel
    have hij1 : i ≤ j := HS.out.2.1
    have hjb : j ≤ m := HS.out.2.2.1
    have hai : a ≤ i := HS.out.1
    by_cases hij : i < j
    · obtain ⟨h, hh⟩ : ∃ h, (i + j) / 2 = h := ⟨_, rfl⟩
      have hhl := half_lt hij
      rw [hh] at hhl
      have hz : ((i : Int) + (j : Int)) / 2 = (h : Int) := by rw [half_int, hh]
      have hijz : (i : Int) < (j : Int) := by omega
      obtain ⟨X, Y, HXY, lx0, lx1, ly0, ly1, hc⟩ := swd_test S1.out R hs HC.out m h (by omega) (by omega)
      have bh0 : (0 : Int) ≤ (h : Int) := by omega
      have bh1 : (h : Int) < (d.size : Int) := by omega
      have ba0 : (0 : Int) ≤ (m : Int) := by omega
      have ba1 : (m : Int) < (d.size : Int) := by omega
      by_cases hlv : cfD X Y < 0
      · have HN : Hid (SrD (ltOf cfD) d a m i h) := ⟨hai, by omega, by omega, HS.out.2.2.2.1, Or.inr (by rw [HXY.out.1, HXY.out.2]; exact decide_eq_true hlv)⟩
        have hd : decide (cfD X Y < 0) = true := decide_eq_true hlv
        go_wp2_with fail
        go_quiet_grown (first | (go_at_call 42; refine Calls.grown_of (hc _ _)))
        have S2 : Aside (SWD w0 blk d (grow (wr.drewN nq) osq)) := S1.out.grown nq osq
        clear lx0 lx1 ly0 ly1 hc S1
        generalize grow (wr.drewN nq) osq = w2 at S2 ⊢
        clear nq osq
        go_wp2
        go_roundg (h - i)
        case measure => omega
        case rel => exact ⟨i, h, rfl, rfl, Nat.le_refl _, S2, HN⟩
      · have HN : Hid (SrD (ltOf cfD) d a m (h + 1) j) := ⟨by omega, by omega, hjb, Or.inr (by rw [Nat.add_sub_cancel, HXY.out.1, HXY.out.2]; exact decide_eq_false hlv), HS.out.2.2.2.2⟩
        have hd : decide (cfD X Y < 0) = false := decide_eq_false hlv
        go_wp2_with fail
        go_quiet_grown (first | (go_at_call 42; refine Calls.grown_of (hc _ _)))
        have S2 : Aside (SWD w0 blk d (grow (wr.drewN nq) osq)) := S1.out.grown nq osq
        clear lx0 lx1 ly0 ly1 hc S1
        generalize grow (wr.drewN nq) osq = w2 at S2 ⊢
        clear nq osq
        go_wp2
        go_roundg (j - (h + 1))
        case measure => omega
        case rel => exact ⟨h + 1, j, by go_num, rfl, Nat.le_refl _, S2, HN⟩
    · obtain rfl : i = j := by omega
      have hii : ¬ ((i : Int) < (i : Int)) := by omega
      go_wp2
      go_loopg [17] m (fun kx sk wr => ∃ (k : Nat) (dk : Array DepV), sk = .int .i64 k ∧ i ≤ k ∧ k ≤ m ∧ k ≤ kx ∧ Aside (SWD w0 blk dk wr) ∧ Hid (Downs d dk m k) ∧ Hid (PermIn a (m + 1) d dk))
      case atStart => exact ⟨m, d, rfl, by omega, Nat.le_refl _, Nat.le_refl _, S1, Downs.zero d m, permIn_refl _ _ _⟩
      case round =>
        clear S1
        obtain ⟨k, dk, rfl, hak, hki, hkx2, S1, HU, HP⟩ := hrel
        have hds : dk.size = d.size := HP.out.1
        by_cases hk : i < k
        · obtain ⟨kp, rfl⟩ : ∃ kp, k = kp + 1 := ⟨k - 1, by omega⟩
          have HN : Hid (Downs d (swp dk (kp + 1) kp) m kp ∧ PermIn a (m + 1) d (swp dk (kp + 1) kp)) := ⟨HU.out.step hki (by omega), permIn_trans _ _ _ _ _ HP.out (swp_permIn dk a (m + 1) (kp + 1) kp (by omega) (by omega) (by omega) (by omega) (by omega))⟩
          have ezz : (((kp + 1 : Nat) : Int)) = (kp : Int) + 1 := by omega
          have hkz : (i : Int) < (kp : Int) + 1 := by omega
          rw [ezz]
          go_wp2_with fail
          have ea : ((kp : Int) + 1).toNat = kp + 1 := by omega
          have pa : (0 : Int) ≤ (kp : Int) + 1 := by omega
          have ba : (kp : Int) + 1 < (d.size : Int) := by omega
          have pc : (0 : Int) ≤ (kp : Int) := by omega
          have bc : (kp : Int) < (d.size : Int) := by omega
          have rc : IntKind.i64.wrap (kp : Int) = (kp : Int) := by rw [IntKind.wrap_i64]; omega
          obtain ⟨X, Y, ⟨x0, x1, x2, x3⟩, ⟨y0, y1, y2, y3⟩, ⟨g0, g1, g2, g3, g4, g5⟩, S2⟩ := swd_swap S1.out R (by omega) (kp + 1) kp (by omega) (by omega) (by omega)
          clear S1
          go_region
          clear g0 g1 g2 g3 g4 g5 x0 x1 x2 x3 y0 y1 y2 y3
          generalize ((((wr.setCell ⟨blk, (kp + 1) * 2, none⟩ (Value.int .i64 Y.v)).setCell ⟨blk, (kp + 1) * 2 + 1, none⟩ (Value.slice Y.a Y.l.length Y.c)).setCell ⟨blk, kp * 2, none⟩ (Value.int .i64 X.v)).setCell ⟨blk, kp * 2 + 1, none⟩ (Value.slice X.a X.l.length X.c)).drew = w2 at S2 ⊢
          go_wp2
          go_roundg kp
          case measure => omega
          case rel => exact ⟨kp, swp dk (kp + 1) kp, by go_num, by omega, by omega, Nat.le_refl _, S2, HN.out.1, HN.out.2⟩
        · have hkz : ¬ ((i : Int) < (k : Int)) := by omega
          obtain rfl : k = i := by omega
          have HA : Hid (Asc keyLt dk a (m + 1)) := SrD.done keyLt_trans HS.out HM.out HU.out
          go_wp2
          refine bodyPost_ret (results_none rfl _ _ _) rfl ?_
          exact ⟨rfl, dk, S1.out, HP.out, HA.out⟩
end Go.Proofs.YtmiijgjpkkmoaaaGreat
