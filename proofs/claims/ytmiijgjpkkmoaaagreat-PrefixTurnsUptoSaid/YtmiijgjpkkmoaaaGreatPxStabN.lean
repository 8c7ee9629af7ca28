/- slices.SortStableFunc at rows of a Dqbf, any number of them. -/
import Derived.Test.YtmiijgjpkkmoaaaGreatPxStabS
import Derived.Test.YtmiijgjpkkmoaaaGreatPxLinear
namespace Go.Proofs.YtmiijgjpkkmoaaaGreat
open Go.RowKit Go.Shelf Go.Lib Go.Sort
set_option linter.unusedVariables false
set_option linter.unusedSimpArgs false

set_option maxRecDepth 100000 in
theorem inserted2_any (blk cap a b : Nat) (d0 d : Array DepV) (w0 w : World) (R : RowD w0 blk d0) (hs : d0.size = d.size) (S : SWD w0 blk d w) (hab : a ≤ b) (hb : b ≤ d.size) (hsz : d.size < 2305843009213693952) :
    Calls Tryz.prog 95 #[.slice (some ⟨blk, 0, none⟩) d0.size cap, .int .i64 a, .int .i64 b, .func (.func 42) #[] #[]] w fun e w' =>
      e = .returned (.tuple #[]) ∧ SWD w0 blk (Sort.insertionSort (ltOf cfD) d a b) w' := by
  have hH := S.holds R.hblk R.hH hs.symm
  have h := AnyQ.insertionSortCmpFunc Tryz.depIns 2 (fun w => rfl) (fun w => rfl) encD (fun x => rfl) (fun x v hv => by
    simp only [encD, List.mem_cons, List.not_mem_nil, or_false] at hv
    rcases hv with rfl | rfl <;> rfl) cfD 42 #[] blk 0 cap a b d w (fun args w => rfl) (cmpLaysD blk 0 d.size w) hH (S.lt R.hblk) hab hb (by omega)
  rw [hs]
  refine h.mono ?_
  rintro e w' ⟨rfl, n, os, hw⟩
  refine ⟨rfl, ?_⟩
  rw [hw]
  exact S.on R.hblk n _ os (insertionSort_holds (lt := ltOf cfD) ⟨fun x => (ltN_no x x).2 (Nat.le_refl _), fun x y z h k => (ltN_iff x z).2 (Nat.lt_trans ((ltN_iff x y).1 h) ((ltN_iff y z).1 k)), fun x y z h k => (ltN_no x z).2 (Nat.le_trans ((ltN_no y z).1 k) ((ltN_no x y).1 h))⟩ d a b hab hb).1.1

set_option maxRecDepth 1000000 in
set_option maxHeartbeats 8000000 in
theorem stableN_any (blk cap : Nat) (d0 : Array DepV) (w0 : World) (hH : HoldsK encD 2 w0 blk 0 d0) (hblk : blk < w0.heap.size) (hsz : d0.size < 1152921504606846976) (hV : ∀ i j, i < j → j < d0.size → varLt d0[i]! d0[j]!) :
    Calls Tryz.prog 74 #[.slice (some ⟨blk, 0, none⟩) d0.size cap, .int .i64 d0.size, .func (.func 42) #[] #[]] w0 fun e w' =>
      e = .returned (.tuple #[]) ∧ ∃ d', SWD w0 blk d' w' ∧ PermIn 0 d0.size d0 d' ∧ Asc keyLt d' 0 d0.size := by
  have R : RowD w0 blk d0 := ⟨fun x => rfl, fun x v hv => by
    simp only [encD, List.mem_cons, List.not_mem_nil, or_false] at hv
    rcases hv with rfl | rfl <;> rfl, hH, hblk⟩
  have S0 : Aside (SWD w0 blk d0 w0) := SWK.start hH
  have HV := Lib.hid hV
  have HSM : Hid (SymC blk cap d0 w0 d0.size) := symmerge_any blk cap d0 w0 R (by omega) d0.size
  clear hH hblk hV
  go_enter Tryz.func74, Tryz.ntmps74
  go_wp2
  go_loopg [7, 8] d0.size (fun kx sa sb wr => ∃ (q a : Nat) (dk : Array DepV), sa = .int .i64 a ∧ sb = .int .i64 ((a : Int) + 20) ∧ d0.size - a ≤ kx ∧ Aside (SWD w0 blk dk wr) ∧ Hid (InvA keyLt varLt d0 dk q a))
  case atStart => exact ⟨0, 0, d0, rfl, rfl, by omega, S0, InvA.start HV.out⟩
  case round =>
    clear S0
    obtain ⟨q, a, dk, rfl, rfl, hkx, S1, HI⟩ := hrel
    have hale : a ≤ d0.size := HI.out.le
    have hds : d0.size ≤ dk.size := Nat.le_of_eq HI.out.per.1.symm
    have hq20 : a ≤ q * 20 ∧ q * 20 ≤ a := ⟨Nat.le_of_eq HI.out.ea, Nat.le_of_eq HI.out.ea.symm⟩
    by_cases hb : a + 20 ≤ d0.size
    · have hbz : (a : Int) + 20 ≤ (d0.size : Int) := by omega
      have hins := inserted2_any blk cap a (a + 20) d0 dk w0 wr R HI.out.per.1.symm S1.out (by omega) (by omega) (by have := HI.out.per.1; omega)
      rw [show ((a + 20 : Nat) : Int) = (a : Int) + 20 by omega] at hins
      have HINS := Lib.hid hins
      have HN := Lib.hid ((HI.out.ins keyLt_trans keyLt_cross HV.out (by omega : a ≤ a + 20) hb (Or.inl (by omega))).1 (by omega))
      clear hins hq20 S1
      go_wp2_with (go_at_call 95; refine HINS.out.mono ?_; rintro e w1 ⟨rfl, hs1⟩)
      have S2 : Aside _ := hs1
      clear hs1
      go_wp2
      go_roundg (d0.size - (a + 20))
      case measure => omega
      case rel => exact ⟨q + 1, a + 20, _, by go_num, by go_num, Nat.le_refl _, S2, HN⟩
    · have hbz : ¬ ((a : Int) + 20 ≤ (d0.size : Int)) := by omega
      have hins := inserted2_any blk cap a d0.size d0 dk w0 wr R HI.out.per.1.symm S1.out hale hds (by have := HI.out.per.1; omega)
      have HINS := Lib.hid hins
      have HN := Lib.hid (HI.out.ins keyLt_trans keyLt_cross HV.out hale (Nat.le_refl _) (Or.inr ⟨rfl, by omega⟩))
      clear hins hq20 S1
      go_wp2_with (go_at_call 95; refine HINS.out.mono ?_; rintro e w1 ⟨rfl, hs1⟩)
      have S2 : Aside _ := hs1
      clear hs1 HINS
      generalize Sort.insertionSort (ltOf cfD) dk a d0.size = dn at S2 HN
      go_loopg [6] d0.size (fun kx sb wr => ∃ (bs : Nat) (dk : Array DepV), sb = .int .i64 bs ∧ 20 ≤ bs ∧ bs ≤ 2 * d0.size + 40 ∧ d0.size - bs ≤ kx ∧ Aside (SWD w0 blk dk wr) ∧ Hid (SortB keyLt dk bs d0.size ∧ SepB varLt dk d0.size bs ∧ PermIn 0 d0.size d0 dk))
      case atStart => exact ⟨20, dn, rfl, Nat.le_refl _, by omega, by omega, S2, HN.out.2.1 (by first | rfl | trivial), HN.out.2.2.2, HN.out.2.2.1⟩
      case round =>
        clear S2 HN HI
        obtain ⟨bs, d1, rfl, hbs, hbb, hkx2, S3, HB⟩ := hrel
        by_cases hlt : bs < d0.size
        · have hltz : (bs : Int) < (d0.size : Int) := by omega
          go_wp2
          go_loopg [7, 8] d0.size (fun kx sa sb wr => ∃ (q a : Nat) (dk : Array DepV), sa = .int .i64 a ∧ sb = .int .i64 ((a : Int) + 2 * (bs : Int)) ∧ d0.size - a ≤ kx ∧ Aside (SWD w0 blk dk wr) ∧ Hid (InvB keyLt varLt d0 d1 dk bs q a))
          case atStart => exact ⟨0, 0, d1, rfl, by go_num, by omega, S3, InvB.start HB.out.1 HB.out.2.1 HB.out.2.2⟩
          case round =>
            clear S3
            obtain ⟨q, a, dk, rfl, rfl, hkx3, S4, HI⟩ := hrel
            have hale2 : a ≤ d0.size := HI.out.le
            by_cases hb : a + 2 * bs ≤ d0.size
            · have hbz : (a : Int) + 2 * (bs : Int) ≤ (d0.size : Int) := by omega
              have hins := HSM.out a (a + bs) (a + 2 * bs) dk wr (by omega) HI.out.per.1.symm S4.out (by omega) (by omega) (by have := HI.out.per.1; omega) (HI.out.mrg keyLt_cross (by omega) (by omega) hb)
              rw [show ((a + bs : Nat) : Int) = (a : Int) + (bs : Int) by omega, show ((a + 2 * bs : Nat) : Int) = (a : Int) + 2 * (bs : Int) by omega] at hins
              have HINS := Lib.hid hins
              clear hins S4
              go_wp2_with (go_at_call 103; refine HINS.out.mono ?_; rintro e w1 ⟨rfl, d2, hs1, hp1, ha1⟩)
              have S5 : Aside (SWD w0 blk d2 w1) := hs1
              have HN := Lib.hid (HI.out.next rfl hb hp1 ha1)
              clear hs1 hp1 ha1
              go_wp2
              go_roundg (d0.size - (a + 2 * bs))
              case measure => omega
              case rel => exact ⟨q + 1, a + 2 * bs, d2, by go_num, by first | rfl | (congr 1; omega) | congr 1, Nat.le_refl _, S5, HN⟩
            · have hbz : ¬ ((a : Int) + 2 * (bs : Int) ≤ (d0.size : Int)) := by omega
              by_cases hm : a + bs < d0.size
              · have hmz : (a : Int) + (bs : Int) < (d0.size : Int) := by omega
                have hins := HSM.out a (a + bs) d0.size dk wr (by omega) HI.out.per.1.symm S4.out (by omega) hm (by have := HI.out.per.1; omega) (HI.out.mrg keyLt_cross hm (by omega) (Nat.le_refl _))
                rw [show ((a + bs : Nat) : Int) = (a : Int) + (bs : Int) by omega] at hins
                have HINS := Lib.hid hins
                clear hins S4
                go_wp2_with (go_at_call 103; refine HINS.out.mono ?_; rintro e w1 ⟨rfl, d2, hs1, hp1, ha1⟩)
                have S5 : Aside (SWD w0 blk d2 w1) := hs1
                have HN := Lib.hid (HI.out.last (by omega) hp1 ha1)
                clear hs1 hp1 ha1
                go_wp2
                go_roundg (d0.size - 2 * bs)
                case measure => omega
                case rel => exact ⟨2 * bs, d2, by congr 1; omega, by omega, by omega, Nat.le_refl _, S5, HN⟩
              · have hmz : ¬ ((a : Int) + (bs : Int) < (d0.size : Int)) := by omega
                have HN := Lib.hid (HI.out.rest (by omega))
                go_wp2
                go_roundg (d0.size - 2 * bs)
                case measure => omega
                case rel => exact ⟨2 * bs, dk, by congr 1; omega, by omega, by omega, Nat.le_refl _, S4, HN⟩
        · have hltz : ¬ ((bs : Int) < (d0.size : Int)) := by omega
          go_wp2
          go_end0
          exact ⟨rfl, d1, S3.out, HB.out.2.2, HB.out.1.done (by omega)⟩

theorem sortdepsN_any (B g cap : Nat) (s : List DepV) (w : World) (hH : HoldsK encD 2 w g 0 s.toArray) (hg : g < w.heap.size) (hB : B ≤ g) (hv : s.Pairwise varLt) (hn : s.length ≤ 1000000) :
    Calls Tryz.prog 41 #[.slice (some ⟨g, 0, none⟩) s.length cap, .func (.func 42) #[] #[]] w fun e w' =>
      e = .returned (.tuple #[]) ∧ HoldsK encD 2 w' g 0 (byKey s).toArray ∧ Below B w w' ∧ g < w'.heap.size := by
  have hV : ∀ i j, i < j → j < s.toArray.size → varLt s.toArray[i]! s.toArray[j]! := fun i j hij hj => by
    have hj2 : j < s.length := by simpa using hj
    have := List.pairwise_iff_getElem.1 hv i j (by omega) hj2 hij
    simpa [hj2, show i < s.length by omega] using this
  have h := stableN_any g cap s.toArray w hH hg (by simp; omega) hV
  simp only [List.size_toArray] at h
  have HI := Lib.hid h
  have hfin : Hid (∀ (d' : Array DepV) (w' : World), SWD w g d' w' → PermIn 0 s.length s.toArray d' → Asc keyLt d' 0 s.length → HoldsK encD 2 w' g 0 (byKey s).toArray ∧ Below B w w' ∧ g < w'.heap.size) := by
    intro d' w' hS hP hA
    have hS2 : SWK encD 2 w g 0 d' w' := hS
    have e : d'.toList = byKey s := sorted_is hv (by simpa using hP) (by simpa using hA)
    have hh := hS2.holds hg hH hP.1
    obtain ⟨n, os, hw⟩ := hS
    refine ⟨?_, by rw [hw]; exact below_sortK hB (by omega), hS2.lt hg⟩
    rw [← e, Array.toArray_toList]
    exact hh
  clear h hV hH
  go_enter Tryz.func41, Tryz.ntmps41
  go_wp2_with (go_at_call 74; refine HI.out.mono ?_; rintro e w1 ⟨rfl, d', hS, hP, hA⟩)
  go_end0
  exact ⟨rfl, hfin.out d' w1 hS hP hA⟩
end Go.Proofs.YtmiijgjpkkmoaaaGreat
