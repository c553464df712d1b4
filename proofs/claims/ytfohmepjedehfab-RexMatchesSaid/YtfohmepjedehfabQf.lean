/-
  An escape of a rune, a single rune of a class.
-/
import Derived.Test.YtfohmepjedehfabQd
import Derived.Test.YtfohmepjedehfabQe
namespace Go.Proofs.Ytfohmepjedehfab
set_option linter.unusedVariables false
set_option linter.unusedSimpArgs false
open Go.RowKit
def flE (f : Flt) : Ending := .panicked [{ v := .iface 69 (.agg #[.int .i64 (f.1 : Nat), .int .i64 (f.2 : Nat)]), recovered := false }]
def OutC (p : Nat) (v : Value) (us : List Value) (L : List Atm) (w : World) (r : Rs Int) (e : Ending) (w' : World) : Prop :=
  match r with
  | .ok (c, l') => e = .returned (.int .i32 c) ∧ PIs w' p l' v us L ∧ Mv (fun k => k = p) w w'
  | .error f => e = flE f ∧ Mv (fun k => k = p) w w'
theorem PIs.lt {w : World} {p : Nat} {l : List Pc} {v : Value} {us : List Value} {L : List Atm} (h : PIs w p l v us L) : p < w.heap.size := by
  obtain ⟨pb, off, c, hb, _⟩ := h.box; exact blk_lt hb
theorem PIs.now_le {w : World} {p : Nat} {l : List Pc} {v : Value} {us : List Value} {L : List Atm} (h : PIs w p l v us L) : nowP l ≤ 1114111 := by
  cases l with
  | nil => exact absurd rfl h.ok.ne
  | cons q t => exact (h.small q List.mem_cons_self).2.2
section
set_option maxHeartbeats 1600000
set_option maxRecDepth 100000
theorem escaped_any (p : Nat) (l : List Pc) (v : Value) (us : List Value) (L : List Atm) (least : Int) (w : World) (h : PIs w p l v us L) (hn : nowP l ≠ -1) (h0 : 0 ≤ least) (hl : least ≤ 1114111) :
    Calls Try.prog 108 #[.pointer (some ⟨p, 0, none⟩), .int .i32 least] w (OutC p v us L w (rescP least l)) := by
  obtain ⟨R, hR⟩ : ∃ R, R = rescP least l := ⟨_, rfl⟩
  rw [← hR]
  unfold rescP at hR
  by_cases h1 : least ≤ 125
  · rw [if_pos h1] at hR
    have HR := Lib.hid hR; clear hR
    have hy := must_yes p w
    have hp := pass_any p l v us L w h hn
    have HY := Lib.hid hy; have HP := Lib.hid hp; clear hy hp
    go_enter Try.func108, Try.ntmps108
    go_wp2_with fail
    refine HY.out.mono ?_
    rintro e w1 ⟨rfl, rfl⟩
    go_wp2_with fail
    refine HP.out.mono ?_
    rintro e w1 ⟨rfl, h1', hm1⟩
    have HM1 := Lib.hid hm1; clear hm1
    have hnow := now_any p _ v us L w1 h1'
    have hle := h1'.now_le
    have H1 := Lib.hid h1'; clear h1'
    have HNOW := Lib.hid hnow; clear hnow
    go_wp2_with fail
    refine HNOW.out.mono ?_
    rintro e w2 ⟨rfl, rfl⟩
    have hno := must_no p _ v us L w2 H1.out
    have hye := must_yes p w2
    by_cases h2 : least ≤ nowP l.tail
    · have hc := marks_any (nowP l.tail) w2 (by omega) hle
      cases hk : (specialP (nowP l.tail) || nowP l.tail == 45 || nowP l.tail == 47) with
      | true =>
        have hR := HR.out
        rw [if_pos (by rw [decide_eq_true h2, hk]; rfl)] at hR
        have HRR := Lib.hid hR; clear hR HR
        rw [hk] at hc
        have hn1 : nowP l.tail ≠ -1 := by omega
        have HPP := Lib.hid (fun W (m : Below w2.heap.size w2 W) => pass_any p _ v us L W (H1.out.below m) hn1)
        have HYY := Lib.hid (fun W => must_yes p W)
        have HC := Lib.hid hc; clear hc hno hye hk hn1
        generalize nowP l.tail = c at *
        go_wp2_with fail
        refine HC.out.mono ?_
        rintro e w3 ⟨rfl, hb3⟩
        have HB3 := Lib.hid hb3; clear hb3
        go_wp2_with fail
        refine (HYY.out _).mono ?_
        rintro e w4 ⟨rfl, rfl⟩
        go_wp2_with fail
        refine (HPP.out _ HB3.out).mono ?_
        rintro e w5 ⟨rfl, h5, hm5⟩
        go_wp2
        go_ret
        rw [HRR.out]
        exact ⟨rfl, h5, HM1.out.trans ((Mv.of_below HB3.out (fun k => k = p)).trans hm5 fun _ _ h => h) fun _ _ h => h⟩
      | false =>
        have hR := HR.out
        rw [if_neg (by rw [decide_eq_true h2, hk]; simp)] at hR
        have HRR := Lib.hid hR; clear hR HR
        rw [hk] at hc
        have HNN := Lib.hid (fun W (m : Below w2.heap.size w2 W) => must_no p _ v us L W (H1.out.below m))
        have HC := Lib.hid hc; clear hc hno hye hk
        generalize nowP l.tail = c at *
        generalize atP l.tail = a at HNN HRR
        go_wp2_with fail
        refine HC.out.mono ?_
        rintro e w3 ⟨rfl, hb3⟩
        have HB3 := Lib.hid hb3; clear hb3
        go_wp2_with fail
        refine (HNN.out _ HB3.out).mono ?_
        rintro e w4 ⟨rfl, rfl⟩
        go_wp2
        rw [HRR.out]
        exact ⟨rfl, rfl, HM1.out.trans (Mv.of_below HB3.out (fun k => k = p)) fun _ _ h => h⟩
    · have hR := HR.out
      rw [if_neg (by rw [decide_eq_false h2]; simp)] at hR
      have HRR := Lib.hid hR; clear hR HR
      have HNN := Lib.hid hno; clear hno hye
      generalize nowP l.tail = c at *
      generalize atP l.tail = a at HNN HRR
      have h2' : c < least := by omega
      go_wp2_with fail
      refine HNN.out.mono ?_
      rintro e w4 ⟨rfl, rfl⟩
      go_wp2
      rw [HRR.out]
      exact ⟨rfl, rfl, HM1.out⟩
  · rw [if_neg h1] at hR
    have HRR := Lib.hid hR; clear hR
    have hno := must_no p _ v us L w h
    have HNO := Lib.hid hno; clear hno h
    generalize atP l = a at HNO HRR
    go_enter Try.func108, Try.ntmps108
    go_wp2_with fail
    refine HNO.out.mono ?_
    rintro e w1 ⟨rfl, rfl⟩
    go_wp2
    rw [HRR.out]
    exact ⟨rfl, rfl, Mv.refl _ _⟩
end
end Go.Proofs.Ytfohmepjedehfab
