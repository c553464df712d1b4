/-
  The plain answers of numbers: one more, both, either, less; the same numbers. The plain answers of numbers: with one more, both, either, less.
-/
import Derived.BigQuiet
import Derived.Test.YtjgappbomohlcaaGreatDoorK02
namespace Go.Proofs.YtjgappbomohlcaaGreatDoor
section
set_option linter.unusedVariables false
set_option linter.unusedSimpArgs false
section
set_option linter.unusedVariables false
set_option linter.unusedSimpArgs false
open Go.RowKit
theorem un_at {w : World} {A : Option Addr} {l : List Nat} (h : Rd w A (l.map Un)) {k : Nat} (hk : k < l.length) : ∃ b off, A = some ⟨b, off, none⟩ ∧ w.cell? ⟨b, off + k, none⟩ = some (.int .u64 (l[k] : Nat)) := by
  obtain ⟨b, off, e, c0⟩ := h k (Un l[k]) (by rw [List.getElem?_map, List.getElem?_eq_getElem hk]; rfl)
  exact ⟨b, off, e, c0⟩
section
set_option maxHeartbeats 3200000
set_option maxRecDepth 100000
theorem rhas_any (A : Option Addr) (c : Nat) (l : List Nat) (n : Nat) (w : World) (hx : Rd w A (l.map Un)) (hl : l.length ≤ 1000000) :
    Calls Tryz.prog 63 #[.slice A l.length c, .int .u64 (n : Nat)] w fun e w' => e = .returned (.bool (decide (n ∈ l))) ∧ w = w' := by
  obtain ⟨R, hR⟩ : ∃ R, R = decide (n ∈ l) := ⟨_, rfl⟩
  rw [← hR]
  have HR := Lib.hid hR; clear hR
  go_enter Tryz.func63, Tryz.ntmps63
  go_wp2_with fail
  go_loopw [9] (fun s9 wr => ∃ k : Nat, s9 = .int .i64 k ∧ k ≤ l.length ∧ wr = w ∧ Aside (n ∉ l.take k)) (fun s9 _ => l.length - (intOf s9).toNat)
  case atStart => exact ⟨0, rfl, Nat.zero_le _, rfl, (show n ∉ l.take 0 from by simp)⟩
  case round =>
    obtain ⟨k, rfl, hk, rfl, NT⟩ := hrel
    have k0 : (0 : Int) ≤ (k : Int) := by omega
    by_cases hlt : k < l.length
    · have k1 : (k : Int) < (l.length : Int) := by omega
      obtain ⟨b, off, rfl, c0⟩ := un_at hx hlt
      have htk := List.take_append_getElem hlt
      by_cases he : l[k] = n
      · have hb : ((l[k] : Int) == (n : Int)) = true := by rw [beq_iff_eq]; omega
        have hr : R = true := by rw [HR.out, decide_eq_true_eq, ← he]; exact List.getElem_mem hlt
        clear htk he
        generalize l[k] = x at *
        go_wp2_with fail
        go_ret
        exact ⟨by rw [hr]; rfl, rfl⟩
      · have hb : ((l[k] : Int) == (n : Int)) = false := by rw [beq_eq_false_iff_ne]; omega
        have hn : n ∉ l.take (k + 1) := by
          rw [← htk, List.mem_append, not_or]
          exact ⟨NT.out, by simpa using fun e => he e.symm⟩
        have HN := Lib.hid hn
        clear htk he hn
        generalize l[k] = x at *
        go_wp2_with fail
        go_roundw
        case rel => exact ⟨k + 1, by go_num, by omega, by first | rfl | trivial, (show Aside _ from HN.out)⟩
        case measure => simp [intOf]; omega
    · obtain rfl : k = l.length := by omega
      have hr : R = false := by rw [HR.out, decide_eq_false_iff_not]; have := NT.out; rwa [List.take_length] at this
      go_wp2_with fail
      go_ret
      exact ⟨by rw [hr]; rfl, rfl⟩
theorem nums_any (A B : Option Addr) (ca cb : Nat) (l m : List Nat) (w : World) (hx : Rd w A (l.map Un)) (hy : Rd w B (m.map Un)) (hl : l.length ≤ 1000000) (hm : m.length ≤ 1000000) :
    Calls Tryz.prog 26 #[.slice A l.length ca, .slice B m.length cb] w fun e w' => e = .returned (.bool (decide (l = m))) ∧ ∃ q, w' = w.drewN q := by
  obtain ⟨R, hR⟩ : ∃ R, R = decide (l = m) := ⟨_, rfl⟩
  rw [← hR]
  have HR := Lib.hid hR; clear hR
  by_cases hlm : l.length = m.length
  · have g0 : ((l.length : Int) != (m.length : Int)) = false := by rw [bne_eq_false_iff_eq]; omega
    go_enter Tryz.func26, Tryz.ntmps26
    go_wp2_with fail
    go_loopw [13] (fun s13 wr => ∃ k q : Nat, s13 = .int .i64 k ∧ k ≤ l.length ∧ wr = w.drewN q ∧ Aside (l.take k = m.take k)) (fun s13 _ => l.length - (intOf s13).toNat)
    case atStart => exact ⟨0, 0, rfl, Nat.zero_le _, rfl, (show l.take 0 = m.take 0 from by simp)⟩
    case round =>
      obtain ⟨k, q, rfl, hk, rfl, NT⟩ := hrel
      have k0 : (0 : Int) ≤ (k : Int) := by omega
      by_cases hlt : k < l.length
      · have k1 : (k : Int) < (l.length : Int) := by omega
        have hlt2 : k < m.length := by omega
        have k2 : (k : Int) < (m.length : Int) := by omega
        obtain ⟨b, off, rfl, c0⟩ := un_at hx hlt
        obtain ⟨b', off', rfl, c1⟩ := un_at hy hlt2
        have htl := List.take_append_getElem hlt
        have htm := List.take_append_getElem hlt2
        by_cases he : l[k] = m[k]
        · have hb : ((l[k] : Int) != (m[k] : Int)) = false := by rw [bne_eq_false_iff_eq]; omega
          have hn : l.take (k + 1) = m.take (k + 1) := by rw [← htl, ← htm, NT.out, he]
          have HN := Lib.hid hn
          clear htl htm he hn
          generalize l[k] = x at *
          generalize m[k] = y at *
          go_wp2_with fail
          go_quiet (fail)
          go_wp2_with fail
          go_roundw
          case rel => exact ⟨k + 1, q + nq, by go_num, by omega, by simp, (show Aside _ from HN.out)⟩
          case measure => simp [intOf]; omega
        · have hb : ((l[k] : Int) != (m[k] : Int)) = true := by rw [bne_iff_ne]; omega
          have hr : R = false := by rw [HR.out, decide_eq_false_iff_not]; rintro rfl; exact he rfl
          clear htl htm he
          generalize l[k] = x at *
          generalize m[k] = y at *
          go_wp2_with fail
          go_quiet (fail)
          go_wp2_with fail
          go_ret
          exact ⟨by rw [hr]; rfl, q + nq, by simp⟩
      · obtain rfl : k = l.length := by omega
        have hr : R = true := by
          rw [HR.out, decide_eq_true_eq]
          have := NT.out
          rwa [List.take_length, hlm, List.take_length] at this
        go_wp2_with fail
        go_ret
        exact ⟨by rw [hr]; rfl, _, rfl⟩
  · have g0 : ((l.length : Int) != (m.length : Int)) = true := by rw [bne_iff_ne]; omega
    have hr : R = false := by rw [HR.out, decide_eq_false_iff_not]; rintro rfl; exact hlm rfl
    go_enter Tryz.func26, Tryz.ntmps26
    go_wp2_with fail
    go_ret
    exact ⟨by rw [hr]; rfl, 0, rfl⟩
end
end
section
set_option linter.unusedVariables false
set_option linter.unusedSimpArgs false
open Go.RowKit
def NumR (w : World) (r : List Nat) (e : Ending) (w' : World) : Prop := ∃ A c, e = .returned (.slice A r.length c) ∧ Rd w' A (r.map Un) ∧ Below w.heap.size w w'
theorem rd_own_u {w : World} {B : Nat} {A : Option Addr} {n c : Nat} {l : List Nat} (h : w.ownsRow B 23 1 (.slice A n c) l.length (l.map Un)) : Rd w A (l.map Un) := by
  obtain ⟨A1, c1, e, h1, -⟩ := own_rdU h
  injection e with e
  rw [e]; exact h1
section
set_option maxHeartbeats 3200000
set_option maxRecDepth 100000
theorem rwith_any10 (A : Option Addr) (c : Nat) (l : List Nat) (n : Nat) (w : World) (hx : Rd w A (l.map Un)) (hl : l.length ≤ 1000000) :
    Calls Tryz.prog 54 #[.slice A l.length c, .int .u64 (n : Nat)] w (NumR w (withN l n)) := by
  obtain ⟨R, hR⟩ : ∃ R, R = withN l n := ⟨_, rfl⟩
  rw [← hR]
  unfold withN at hR
  have hh := rhas_any A c l n w hx hl
  by_cases hin : n ∈ l
  · rw [if_pos hin] at hR
    subst hR
    rw [decide_eq_true hin] at hh
    have HH := Lib.hid hh; clear hh hin
    go_enter Tryz.func54, Tryz.ntmps54
    go_wp2_with (first
      | (go_at_call 63; go_must (refine HH.out.mono ?_); rintro e w1 ⟨rfl, rfl⟩)
      | fail)
    go_ret
    exact ⟨A, c, rfl, hx, Below.refl _ _⟩
  · rw [if_neg hin] at hR
    rw [decide_eq_false hin] at hh
    have HH := Lib.hid hh; have HR := Lib.hid hR; clear hh hin hR
    have hb0 : Below w.heap.size w (w.alloc (.cells #[] 23)) := (Below.refl _ w).alloc (Nat.le_refl _) _
    have HB0 := Lib.hid hb0; clear hb0
    go_enter Tryz.func54, Tryz.ntmps54
    go_wp2_with (first
      | (go_at_call 63; go_must (refine HH.out.mono ?_); rintro e w1 ⟨rfl, rfl⟩)
      | fail)
    go_loopw [5, 17] (fun s5 s17 wr => ∃ (k : Nat) (A5 : Option Addr) (c5 : Nat) (acc : List Nat), s5 = .slice A5 acc.length c5 ∧ s17 = .int .i64 k ∧ k ≤ l.length ∧ acc.length ≤ k ∧ Aside (acc = (l.take k).filter fun x => decide (x < n)) ∧ Aside (wr.ownsRow w.heap.size 23 1 (.slice A5 acc.length c5) acc.length (acc.map Un)) ∧ Aside (Below w.heap.size w wr)) (fun _ s17 _ => l.length - (intOf s17).toNat)
    case atStart => exact ⟨0, _, 0, [], rfl, rfl, Nat.zero_le _, Nat.le_refl _, (show ([] : List Nat) = (l.take 0).filter _ from rfl), (show Aside _ from ⟨rfl, .inr ⟨w.heap.size, 0, #[], rfl, Nat.le_refl _, heap_alloc_new w _, Nat.le_refl _, Nat.zero_le _, rfl, rfl⟩⟩), (show Aside _ from HB0.out)⟩
    case round =>
      obtain ⟨k, A5, c5, acc, rfl, rfl, hk, hak, EA, OW, BW⟩ := hrel
      have k0 : (0 : Int) ≤ (k : Int) := by omega
      by_cases hlt : k < l.length
      · have k1 : (k : Int) < (l.length : Int) := by omega
        obtain ⟨b, off, rfl, c0⟩ := un_at (hx.below BW.out) hlt
        have htk := List.take_append_getElem hlt
        by_cases he : l[k] < n
        · have hb : (l[k] : Int) < (n : Int) := by omega
          have hn : acc ++ [l[k]] = (l.take (k + 1)).filter fun x => decide (x < n) := by
            rw [← htk, List.filter_append, ← EA.out]; simp [he]
          have HN := Lib.hid hn
          clear htk he hn
          generalize l[k] = x at *
          go_wp2_with (first
            | (at_builtin; go_must (refine wpList_append_u rfl _ _ rfl w.heap.size _ acc rfl (OW.out.alloc _) ⟨wr.heap.size, 0, none⟩ 1 [x] rfl (rd_row wr [Un x] 23) (by simp only [List.length_cons, List.length_nil]; omega) (by have := BW.out.size; rw [World.size_alloc]; omega) ?_; intro v4 w4 own4 grow4 _))
            | fail)
          have hb4 : Below w.heap.size w w4 := (BW.out.alloc BW.out.size _).grown grow4 (by have := BW.out.size; rw [World.size_alloc]; omega) (fun k h => (OW.out.lt k h).1)
          have HO4 := Lib.hid own4; have HB4 := Lib.hid hb4
          clear own4 grow4 hb4
          obtain ⟨A8, c8, hv8, -⟩ := own_rdU HO4.out
          subst hv8
          go_roundw
          case rel => exact ⟨k + 1, A8, c8, acc ++ [x], rfl, by go_num, by omega, by simp; omega, (show Aside _ from HN.out), (show Aside _ from HO4.out), (show Aside _ from HB4.out)⟩
          case measure => simp [intOf]; omega
        · have hb : ¬ (l[k] : Int) < (n : Int) := by omega
          have hn : acc = (l.take (k + 1)).filter fun x => decide (x < n) := by
            rw [← htk, List.filter_append, ← EA.out]; simp [he]
          have HN := Lib.hid hn
          clear htk he hn
          generalize l[k] = x at *
          go_wp2_with fail
          go_roundw
          case rel => exact ⟨k + 1, A5, c5, acc, rfl, by go_num, by omega, by omega, (show Aside _ from HN.out), (show Aside _ from OW.out), (show Aside _ from BW.out)⟩
          case measure => simp [intOf]; omega
      · obtain rfl : k = l.length := by omega
        have hE := EA.out
        rw [List.take_length] at hE
        rw [← hE] at HR
        have HR2 := Lib.hid HR.out
        clear HR EA hE
        go_wp2_with (first
          | (at_builtin; go_must (refine wpList_append_u rfl _ _ rfl w.heap.size _ acc rfl (OW.out.alloc _) ⟨wr.heap.size, 0, none⟩ 1 [n] rfl (rd_row wr [Un n] 23) (by simp only [List.length_cons, List.length_nil]; omega) (by have := BW.out.size; rw [World.size_alloc]; omega) ?_; intro v4 w4 own4 grow4 _))
          | fail)
        have hb4 : Below w.heap.size w w4 := (BW.out.alloc BW.out.size _).grown grow4 (by have := BW.out.size; rw [World.size_alloc]; omega) (fun k h => (OW.out.lt k h).1)
        have HO4 := Lib.hid own4; have HB4 := Lib.hid hb4
        clear own4 grow4 hb4
        obtain ⟨A8, c8, hv8, -⟩ := own_rdU HO4.out
        subst hv8
        clear OW BW
        obtain ⟨P, hP⟩ : ∃ P, P = acc ++ [n] := ⟨_, rfl⟩
        have hpl : P.length ≤ l.length + 1 := by rw [hP, List.length_append, List.length_singleton]; omega
        have hst : R = P ++ l.filter fun x => decide (n < x) := by rw [HR2.out, hP]; simp
        rw [← hP] at HO4
        rw [show (acc ++ [n]).length = P.length from by rw [hP]]
        have HS := Lib.hid hst
        clear hst hP HR2
        go_loopw [5, 35] (fun s5 s35 wr => ∃ (k : Nat) (A5 : Option Addr) (c5 : Nat) (acc : List Nat), s5 = .slice A5 acc.length c5 ∧ s35 = .int .i64 k ∧ k ≤ l.length ∧ acc.length ≤ P.length + k ∧ Aside (acc = P ++ (l.take k).filter fun x => decide (n < x)) ∧ Aside (wr.ownsRow w.heap.size 23 1 (.slice A5 acc.length c5) acc.length (acc.map Un)) ∧ Aside (Below w.heap.size w wr)) (fun _ s35 _ => l.length - (intOf s35).toNat)
        case atStart => exact ⟨0, A8, c8, P, rfl, rfl, Nat.zero_le _, Nat.le_refl _, (show P = P ++ (l.take 0).filter _ from by simp), (show Aside _ from HO4.out), (show Aside _ from HB4.out)⟩
        case round =>
          clear HO4 HB4 hak
          obtain ⟨k, A5, c5, acc2, rfl, rfl, hk, hak, EA, OW, BW⟩ := hrel
          have k0 : (0 : Int) ≤ (k : Int) := by omega
          by_cases hlt : k < l.length
          · have k1 : (k : Int) < (l.length : Int) := by omega
            obtain ⟨b, off, rfl, c0⟩ := un_at (hx.below BW.out) hlt
            have htk := List.take_append_getElem hlt
            by_cases he : n < l[k]
            · have hb : (n : Int) < (l[k] : Int) := by omega
              have hn : acc2 ++ [l[k]] = P ++ (l.take (k + 1)).filter fun x => decide (n < x) := by
                rw [← htk, List.filter_append, ← List.append_assoc, ← EA.out]; simp [he]
              have HN := Lib.hid hn
              clear htk he hn
              generalize l[k] = x at *
              go_wp2_with (first
                | (at_builtin; go_must (refine wpList_append_u rfl _ _ rfl w.heap.size _ acc2 rfl (OW.out.alloc _) ⟨wr.heap.size, 0, none⟩ 1 [x] rfl (rd_row wr [Un x] 23) (by simp only [List.length_cons, List.length_nil]; omega) (by have := BW.out.size; rw [World.size_alloc]; omega) ?_; intro v4 w4 own4 grow4 _))
                | fail)
              have hb4 : Below w.heap.size w w4 := (BW.out.alloc BW.out.size _).grown grow4 (by have := BW.out.size; rw [World.size_alloc]; omega) (fun k h => (OW.out.lt k h).1)
              have HO4 := Lib.hid own4; have HB4 := Lib.hid hb4
              clear own4 grow4 hb4
              obtain ⟨A8, c8, hv8, -⟩ := own_rdU HO4.out
              subst hv8
              go_roundw
              case rel => exact ⟨k + 1, A8, c8, acc2 ++ [x], rfl, by go_num, by omega, by simp; omega, (show Aside _ from HN.out), (show Aside _ from HO4.out), (show Aside _ from HB4.out)⟩
              case measure => simp [intOf]; omega
            · have hb : ¬ (n : Int) < (l[k] : Int) := by omega
              have hn : acc2 = P ++ (l.take (k + 1)).filter fun x => decide (n < x) := by
                rw [← htk, List.filter_append, ← List.append_assoc, ← EA.out]; simp [he]
              have HN := Lib.hid hn
              clear htk he hn
              generalize l[k] = x at *
              go_wp2_with fail
              go_roundw
              case rel => exact ⟨k + 1, A5, c5, acc2, rfl, by go_num, by omega, by omega, (show Aside _ from HN.out), (show Aside _ from OW.out), (show Aside _ from BW.out)⟩
              case measure => simp [intOf]; omega
          · obtain rfl : k = l.length := by omega
            have hE := EA.out
            rw [List.take_length, ← HS.out] at hE
            subst hE
            go_wp2_with fail
            go_ret
            exact ⟨A5, c5, rfl, rd_own_u OW.out, BW.out⟩
theorem rand_any10 (A B : Option Addr) (ca cb : Nat) (l m : List Nat) (w : World) (hx : Rd w A (l.map Un)) (hy : Rd w B (m.map Un)) (hl : l.length ≤ 1000000) (hm : m.length ≤ 1000000) :
    Calls Tryz.prog 35 #[.slice A l.length ca, .slice B m.length cb] w (NumR w (andN l m)) := by
  obtain ⟨R, hR⟩ : ∃ R, R = andN l m := ⟨_, rfl⟩
  rw [← hR]
  unfold andN at hR
  have HR := Lib.hid hR; clear hR
  go_enter Tryz.func35, Tryz.ntmps35
  go_wp2_with fail
  go_loopw [5, 10] (fun s5 s10 wr => ∃ (k : Nat) (A5 : Option Addr) (c5 : Nat) (acc : List Nat), s5 = .slice A5 acc.length c5 ∧ s10 = .int .i64 k ∧ k ≤ l.length ∧ Aside (acc = riseN ((l.take k).filter fun x => decide (x ∈ m))) ∧ Aside (Rd wr A5 (acc.map Un)) ∧ Aside (Below w.heap.size w wr)) (fun _ s10 _ => l.length - (intOf s10).toNat)
  case atStart => exact ⟨0, none, 0, [], rfl, rfl, Nat.zero_le _, (show ([] : List Nat) = riseN ((l.take 0).filter _) from rfl), (show Aside _ from Rd.nil _ _), (show Aside _ from Below.refl _ _)⟩
  case round =>
    obtain ⟨k, A5, c5, acc, rfl, rfl, hk, EA, RA, BW⟩ := hrel
    have k0 : (0 : Int) ≤ (k : Int) := by omega
    have hal : acc.length ≤ 1000000 := by
      rw [EA.out]
      have h1 := riseN_len ((l.take k).filter fun x => decide (x ∈ m))
      have h2 := List.length_filter_le (fun x => decide (x ∈ m)) (l.take k)
      have h3 := List.length_take_le k l
      omega
    by_cases hlt : k < l.length
    · have k1 : (k : Int) < (l.length : Int) := by omega
      obtain ⟨b, off, rfl, c0⟩ := un_at (hx.below BW.out) hlt
      have htk := List.take_append_getElem hlt
      have hh := rhas_any B cb m l[k] wr (hy.below BW.out) hm
      have hw := rwith_any10 A5 c5 acc l[k] wr RA.out hal
      by_cases he : l[k] ∈ m
      · rw [decide_eq_true he] at hh
        have hn : withN acc l[k] = riseN ((l.take (k + 1)).filter fun x => decide (x ∈ m)) := by
          rw [← htk, List.filter_append]; simp only [List.filter_cons, List.filter_nil, he, decide_true]; unfold riseN; rw [if_pos trivial, List.foldl_append]; show withN acc l[k] = withN (riseN _) l[k]; rw [EA.out]
        have HN := Lib.hid hn; have HH := Lib.hid hh; have HW := Lib.hid hw
        clear htk he hn hh hw
        generalize l[k] = x at *
        go_wp2_with (first
          | (go_at_call 63; go_must (refine HH.out.mono ?_); rintro e w1 ⟨rfl, rfl⟩)
          | (go_at_call 54; go_must (refine HW.out.mono ?_); rintro e w1 ⟨A8, c8, rfl, hr8, hb8⟩; have HR8 := Lib.hid hr8; have HB8 := Lib.hid hb8; clear hr8 hb8)
          | fail)
        go_roundw
        case rel => exact ⟨k + 1, A8, c8, _, rfl, by go_num, by omega, (show Aside _ from HN.out), (show Aside _ from HR8.out), (show Aside _ from BW.out.trans (HB8.out.mono BW.out.size))⟩
        case measure => simp [intOf]; omega
      · rw [decide_eq_false he] at hh
        have hn : acc = riseN ((l.take (k + 1)).filter fun x => decide (x ∈ m)) := by
          rw [← htk, List.filter_append]; simp only [List.filter_cons, List.filter_nil, he, decide_false]; simp [EA.out]
        have HN := Lib.hid hn; have HH := Lib.hid hh; have HW := Lib.hid hw
        clear htk he hn hh hw
        generalize l[k] = x at *
        go_wp2_with (first
          | (go_at_call 63; go_must (refine HH.out.mono ?_); rintro e w1 ⟨rfl, rfl⟩)
          | (go_at_call 54; go_must (refine HW.out.mono ?_); rintro e w1 ⟨A8, c8, rfl, hr8, hb8⟩; have HR8 := Lib.hid hr8; have HB8 := Lib.hid hb8; clear hr8 hb8)
          | fail)
        go_roundw
        case rel => exact ⟨k + 1, A5, c5, acc, rfl, by go_num, by omega, (show Aside _ from HN.out), (show Aside _ from RA.out), (show Aside _ from BW.out)⟩
        case measure => simp [intOf]; omega
    · obtain rfl : k = l.length := by omega
      have hE := EA.out
      rw [List.take_length, ← HR.out] at hE
      subst hE
      go_wp2_with fail
      go_ret
      exact ⟨A5, c5, rfl, RA.out, BW.out⟩
theorem rless_any10 (A B : Option Addr) (ca cb : Nat) (l m : List Nat) (w : World) (hx : Rd w A (l.map Un)) (hy : Rd w B (m.map Un)) (hl : l.length ≤ 1000000) (hm : m.length ≤ 1000000) :
    Calls Tryz.prog 37 #[.slice A l.length ca, .slice B m.length cb] w (NumR w (lessN l m)) := by
  obtain ⟨R, hR⟩ : ∃ R, R = lessN l m := ⟨_, rfl⟩
  rw [← hR]
  unfold lessN at hR
  have HR := Lib.hid hR; clear hR
  go_enter Tryz.func37, Tryz.ntmps37
  go_wp2_with fail
  go_loopw [5, 10] (fun s5 s10 wr => ∃ (k : Nat) (A5 : Option Addr) (c5 : Nat) (acc : List Nat), s5 = .slice A5 acc.length c5 ∧ s10 = .int .i64 k ∧ k ≤ l.length ∧ Aside (acc = riseN ((l.take k).filter fun x => !decide (x ∈ m))) ∧ Aside (Rd wr A5 (acc.map Un)) ∧ Aside (Below w.heap.size w wr)) (fun _ s10 _ => l.length - (intOf s10).toNat)
  case atStart => exact ⟨0, none, 0, [], rfl, rfl, Nat.zero_le _, (show ([] : List Nat) = riseN ((l.take 0).filter _) from rfl), (show Aside _ from Rd.nil _ _), (show Aside _ from Below.refl _ _)⟩
  case round =>
    obtain ⟨k, A5, c5, acc, rfl, rfl, hk, EA, RA, BW⟩ := hrel
    have k0 : (0 : Int) ≤ (k : Int) := by omega
    have hal : acc.length ≤ 1000000 := by
      rw [EA.out]
      have h1 := riseN_len ((l.take k).filter fun x => !decide (x ∈ m))
      have h2 := List.length_filter_le (fun x => !decide (x ∈ m)) (l.take k)
      have h3 := List.length_take_le k l
      omega
    by_cases hlt : k < l.length
    · have k1 : (k : Int) < (l.length : Int) := by omega
      obtain ⟨b, off, rfl, c0⟩ := un_at (hx.below BW.out) hlt
      have htk := List.take_append_getElem hlt
      have hh := rhas_any B cb m l[k] wr (hy.below BW.out) hm
      have hw := rwith_any10 A5 c5 acc l[k] wr RA.out hal
      by_cases he : l[k] ∈ m
      · rw [decide_eq_true he] at hh
        have hn : acc = riseN ((l.take (k + 1)).filter fun x => !decide (x ∈ m)) := by
          rw [← htk, List.filter_append]; simp only [List.filter_cons, List.filter_nil, he, decide_true, Bool.not_true]; simp [EA.out]
        have HN := Lib.hid hn; have HH := Lib.hid hh; have HW := Lib.hid hw
        clear htk he hn hh hw
        generalize l[k] = x at *
        go_wp2_with (first
          | (go_at_call 63; go_must (refine HH.out.mono ?_); rintro e w1 ⟨rfl, rfl⟩)
          | (go_at_call 54; go_must (refine HW.out.mono ?_); rintro e w1 ⟨A8, c8, rfl, hr8, hb8⟩; have HR8 := Lib.hid hr8; have HB8 := Lib.hid hb8; clear hr8 hb8)
          | fail)
        go_roundw
        case rel => exact ⟨k + 1, A5, c5, acc, rfl, by go_num, by omega, (show Aside _ from HN.out), (show Aside _ from RA.out), (show Aside _ from BW.out)⟩
        case measure => simp [intOf]; omega
      · rw [decide_eq_false he] at hh
        have hn : withN acc l[k] = riseN ((l.take (k + 1)).filter fun x => !decide (x ∈ m)) := by
          rw [← htk, List.filter_append]; simp only [List.filter_cons, List.filter_nil, he, decide_false, Bool.not_false]; unfold riseN; rw [if_pos trivial, List.foldl_append]; show withN acc l[k] = withN (riseN _) l[k]; rw [EA.out]
        have HN := Lib.hid hn; have HH := Lib.hid hh; have HW := Lib.hid hw
        clear htk he hn hh hw
        generalize l[k] = x at *
        go_wp2_with (first
          | (go_at_call 63; go_must (refine HH.out.mono ?_); rintro e w1 ⟨rfl, rfl⟩)
          | (go_at_call 54; go_must (refine HW.out.mono ?_); rintro e w1 ⟨A8, c8, rfl, hr8, hb8⟩; have HR8 := Lib.hid hr8; have HB8 := Lib.hid hb8; clear hr8 hb8)
          | fail)
        go_roundw
        case rel => exact ⟨k + 1, A8, c8, _, rfl, by go_num, by omega, (show Aside _ from HN.out), (show Aside _ from HR8.out), (show Aside _ from BW.out.trans (HB8.out.mono BW.out.size))⟩
        case measure => simp [intOf]; omega
    · obtain rfl : k = l.length := by omega
      have hE := EA.out
      rw [List.take_length, ← HR.out] at hE
      subst hE
      go_wp2_with fail
      go_ret
      exact ⟨A5, c5, rfl, RA.out, BW.out⟩
theorem ror_any10 (A B : Option Addr) (ca cb : Nat) (l m : List Nat) (w : World) (hx : Rd w A (l.map Un)) (hy : Rd w B (m.map Un)) (hl : l.length ≤ 500000) (hm : m.length ≤ 500000) :
    Calls Tryz.prog 36 #[.slice A l.length ca, .slice B m.length cb] w (NumR w (orN l m)) := by
  obtain ⟨R, hR⟩ : ∃ R, R = orN l m := ⟨_, rfl⟩
  rw [← hR]
  unfold orN at hR
  have HR := Lib.hid hR; clear hR
  have hsucc : ∀ (xs : List Nat) (x : Nat), riseN (xs ++ [x]) = withN (riseN xs) x := fun xs x => by unfold riseN; rw [List.foldl_append]; rfl
  have HSC := Lib.hid hsucc; clear hsucc
  go_enter Tryz.func36, Tryz.ntmps36
  go_wp2_with fail
  go_loopw [5, 12] (fun s5 s12 wr => ∃ (k : Nat) (A5 : Option Addr) (c5 : Nat) (acc : List Nat), s5 = .slice A5 acc.length c5 ∧ s12 = .int .i64 k ∧ k ≤ l.length ∧ Aside (acc = riseN (l.take k)) ∧ Aside (Rd wr A5 (acc.map Un)) ∧ Aside (Below w.heap.size w wr)) (fun _ s12 _ => l.length - (intOf s12).toNat)
  case atStart => exact ⟨0, none, 0, [], rfl, rfl, Nat.zero_le _, (show ([] : List Nat) = riseN (l.take 0) from rfl), (show Aside _ from Rd.nil _ _), (show Aside _ from Below.refl _ _)⟩
  case round =>
    obtain ⟨k, A5, c5, acc, rfl, rfl, hk, EA, RA, BW⟩ := hrel
    have k0 : (0 : Int) ≤ (k : Int) := by omega
    have hal : acc.length ≤ 1000000 := by
      rw [EA.out]
      have h1 := riseN_len (l.take k)
      have h3 := List.length_take_le k l
      omega
    by_cases hlt : k < l.length
    · have k1 : (k : Int) < (l.length : Int) := by omega
      obtain ⟨b, off, rfl, c0⟩ := un_at (hx.below BW.out) hlt
      have htk := List.take_append_getElem hlt
      have hw := rwith_any10 A5 c5 acc l[k] wr RA.out hal
      have hn : withN acc l[k] = riseN (l.take (k + 1)) := by rw [← htk, HSC.out, EA.out]
      have HN := Lib.hid hn; have HW := Lib.hid hw
      clear htk hn hw
      generalize l[k] = x at *
      go_wp2_with (first
        | (go_at_call 54; go_must (refine HW.out.mono ?_); rintro e w1 ⟨A8, c8, rfl, hr8, hb8⟩; have HR8 := Lib.hid hr8; have HB8 := Lib.hid hb8; clear hr8 hb8)
        | fail)
      go_roundw
      case rel => exact ⟨k + 1, A8, c8, _, rfl, by go_num, by omega, (show Aside _ from HN.out), (show Aside _ from HR8.out), (show Aside _ from BW.out.trans (HB8.out.mono BW.out.size))⟩
      case measure => simp [intOf]; omega
    · obtain rfl : k = l.length := by omega
      have hE := EA.out
      rw [List.take_length] at hE
      have HE := Lib.hid hE; clear hE EA hal
      go_wp2_with fail
      go_loopw [5, 22] (fun s5 s22 wr => ∃ (k : Nat) (A5 : Option Addr) (c5 : Nat) (acc : List Nat), s5 = .slice A5 acc.length c5 ∧ s22 = .int .i64 k ∧ k ≤ m.length ∧ Aside (acc = riseN (l ++ m.take k)) ∧ Aside (Rd wr A5 (acc.map Un)) ∧ Aside (Below w.heap.size w wr)) (fun _ s22 _ => m.length - (intOf s22).toNat)
      case atStart => exact ⟨0, A5, c5, acc, rfl, rfl, Nat.zero_le _, (show acc = riseN (l ++ m.take 0) from by rw [List.take_zero, List.append_nil]; exact HE.out), (show Aside _ from RA.out), (show Aside _ from BW.out)⟩
      case round =>
        clear RA BW HE
        obtain ⟨k, A5, c5, acc, rfl, rfl, hk, EA, RA, BW⟩ := hrel
        have k0 : (0 : Int) ≤ (k : Int) := by omega
        have hal : acc.length ≤ 1000000 := by
          rw [EA.out]
          have h1 := riseN_len (l ++ m.take k)
          have h3 := List.length_take_le k m
          rw [List.length_append] at h1
          omega
        by_cases hlt : k < m.length
        · have k1 : (k : Int) < (m.length : Int) := by omega
          obtain ⟨b, off, rfl, c0⟩ := un_at (hy.below BW.out) hlt
          have htk := List.take_append_getElem hlt
          have hw := rwith_any10 A5 c5 acc m[k] wr RA.out hal
          have hn : withN acc m[k] = riseN (l ++ m.take (k + 1)) := by rw [← htk, ← List.append_assoc, HSC.out, EA.out]
          have HN := Lib.hid hn; have HW := Lib.hid hw
          clear htk hn hw
          generalize m[k] = x at *
          go_wp2_with (first
            | (go_at_call 54; go_must (refine HW.out.mono ?_); rintro e w1 ⟨A8, c8, rfl, hr8, hb8⟩; have HR8 := Lib.hid hr8; have HB8 := Lib.hid hb8; clear hr8 hb8)
            | fail)
          go_roundw
          case rel => exact ⟨k + 1, A8, c8, _, rfl, by go_num, by omega, (show Aside _ from HN.out), (show Aside _ from HR8.out), (show Aside _ from BW.out.trans (HB8.out.mono BW.out.size))⟩
          case measure => simp [intOf]; omega
        · obtain rfl : k = m.length := by omega
          have hE := EA.out
          rw [List.take_length, ← HR.out] at hE
          subst hE
          go_wp2_with fail
          go_ret
          exact ⟨A5, c5, rfl, RA.out, BW.out⟩
end
end
end
end Go.Proofs.YtjgappbomohlcaaGreatDoor
