/-
  The points of a list of which a function value says so; windows.
-/
import Derived.Test.YtinjdlplbficiaaPt2
import Derived.Test.YtinjdlplbficiaaPms
namespace Go.Proofs.Ytinjdlplbficiaa
set_option linter.unusedVariables false
set_option linter.unusedSimpArgs false
open Go.RowKit
section
set_option maxHeartbeats 1600000
set_option maxRecDepth 100000
theorem near_any (x : Pt) (t width : Int) (w : World) : Calls Try.prog 63 #[aggPt x, .int .i64 t, .int .u64 width] w fun e w' => e = .returned (.bool (nearB t width x)) ∧ RowKit.Below w.heap.size w w' := by
  have HBW := Lib.hid ((RowKit.Below.refl w.heap.size w).alloc (Nat.le_refl _) (.cells (boxPt x) 25))
  unfold boxPt at HBW
  obtain ⟨x1, x2, x3⟩ := x
  unfold nearB aggPt
  simp only at HBW ⊢
  by_cases h : x1 ≤ t
  · rw [decide_eq_true h, Bool.true_and]
    obtain ⟨d, hd⟩ : ∃ d, d = IntKind.u64.wrap (IntKind.u64.wrap t - IntKind.u64.wrap x1) := ⟨_, rfl⟩
    rw [← hd]
    have HD := Lib.hid hd
    by_cases h2 : d < width
    · rw [decide_eq_true h2]
      rw [hd] at h2
      go_enter Try.func63, Try.ntmps63
      go_wp2
      go_ret
      exact ⟨by simp_all, HBW.out⟩
    · rw [decide_eq_false h2]
      rw [hd] at h2
      go_enter Try.func63, Try.ntmps63
      go_wp2
      go_ret
      exact ⟨by simp_all, HBW.out⟩
  · rw [decide_eq_false h, Bool.false_and]
    go_enter Try.func63, Try.ntmps63
    go_wp2
    go_ret
    exact ⟨rfl, HBW.out⟩
theorem win1_tells (ta tb : Nat) (t width : Int) : TellsP 62 #[.pointer (some ⟨ta, 0, none⟩), .pointer (some ⟨tb, 0, none⟩)] (nearB t width) (fun W => W.heap[ta]? = some (.cells #[.int .i64 t] 2 (0, 0)) ∧ W.heap[tb]? = some (.cells #[.int .u64 width] 23 (0, 0))) := by
  rintro W x ⟨ha, hb⟩
  have hc := near_any x t width (W.alloc (.cells (boxPt x) 25))
  have hbw := (RowKit.Below.refl W.heap.size W).alloc (Nat.le_refl _) (.cells (boxPt x) 25)
  have da := cell_blk ((Below.heap_alloc W (.cells (boxPt x) 25) _ (blk_lt ha)).trans ha) 0
  have db := cell_blk ((Below.heap_alloc W (.cells (boxPt x) 25) _ (blk_lt hb)).trans hb) 0
  simp only [List.getElem?_toArray, List.getElem?_cons_zero] at da db
  unfold boxPt at hc hbw da db
  obtain ⟨x1, x2, x3⟩ := x
  unfold aggPt at hc ⊢
  simp only at hc hbw da db ⊢
  have HBW := Lib.hid hbw; have HC := Lib.hid hc
  clear hbw hc ha hb
  go_enter Try.func62, Try.ntmps62
  go_wp2_with (first | (go_at_call 63; refine HC.out.mono ?_; rintro e w1 ⟨rfl, hb1⟩) | fail)
  go_ret
  exact ⟨rfl, HBW.out.trans (hb1.mono HBW.out.size)⟩
theorem those_any (A : Option Addr) (c : Nat) (l : List Pt) (w : World) (g : Nat) (lb : Array Value) (p : Pt → Bool) (eg : ∀ args w, (callFunc g args).run Try.prog w = .ok (.enter g args) w)
    (hp : TellsP g lb p (fun W => RowKit.Below w.heap.size w W)) (hx : Rd w A (pcells l)) (hl : l.length ≤ 2000) :
    Calls Try.prog 61 #[.slice A l.length c, .func (.func g) #[] lb] w fun e w' => ∃ A' c', e = .returned (.slice A' (l.filter p).length c') ∧ w'.ownsRow w.heap.size 25 3 (.slice A' (l.filter p).length c') (l.filter p).length (pcells (l.filter p)) ∧ RowKit.Below w.heap.size w w' := by
  obtain ⟨R, hR⟩ : ∃ R, R = l.filter p := ⟨_, rfl⟩
  rw [← hR]
  have hst : R = [] ++ (l.drop 0).filter p := by rw [hR]; simp
  have HST := Lib.hid hst; have HP := Lib.hid hp; clear hst hR hp
  go_enter Try.func61, Try.ntmps61
  go_wp2
  go_loopw [10, 5] (fun s10 s5 wr => ∃ (k : Nat) (acc : List Pt), s10 = .int .i64 k ∧ k ≤ l.length ∧ acc.length ≤ k ∧ Aside (wr.ownsRow w.heap.size 25 3 s5 acc.length (pcells acc)) ∧ Aside (RowKit.Below w.heap.size w wr) ∧ Aside (R = acc ++ (l.drop k).filter p)) (fun s10 _ _ => l.length - (intOf s10).toNat)
  case atStart => exact ⟨0, [], rfl, by omega, by simp, World.ownsRow_nil _ _ _ _, RowKit.Below.refl _ _, HST.out⟩
  case round =>
    obtain ⟨k, acc, rfl, hk, hacc, OW, BW, E⟩ := hrel
    obtain ⟨A6, c6, hv6, -, -, -⟩ := own_rd_pt OW.out
    subst hv6
    have k0 : (0 : Int) ≤ (k : Int) := by omega
    by_cases hlt : k < l.length
    · have k1 : (k : Int) < (l.length : Int) := by omega
      obtain ⟨b, off, rfl, c0, c1, c2⟩ := pt_at (hx.below BW.out) hlt
      have hE := E.out
      rw [List.drop_eq_getElem_cons hlt, List.filter_cons] at hE
      clear E
      generalize l[k] = x at c0 c1 c2 hE
      have hbw := BW.out.alloc BW.out.size (.cells (boxPt x) 25)
      have hcall := HP.out (wr.alloc (.cells (boxPt x) 25)) x hbw
      have hown := own_below_pt OW.out ((RowKit.Below.refl _ wr).alloc (Nat.le_refl _) (.cells (boxPt x) 25))
      have hbox := PBox.new wr x
      have HBX := Lib.hid hbox; have HO := Lib.hid hown; have HBW := Lib.hid hbw
      have hsz : w.heap.size ≤ wr.heap.size := BW.out.size
      clear hbox hown hbw OW BW
      have HX := Lib.hid hx; clear hx
      generalize hq : p x = q at hcall hE
      clear hq
      obtain ⟨x1, x2, x3⟩ := x
      unfold aggPt boxPt at hcall
      simp only at c0 c1 c2 hcall
      have HC := Lib.hid hcall; clear hcall
      cases q with
      | true =>
        rw [if_pos rfl] at hE
        have hE2 : R = (acc ++ [(x1, x2, x3)]) ++ (l.drop (k + 1)).filter p := by rw [hE, List.append_assoc]; rfl
        have HE := Lib.hid hE2; clear hE hE2
        go_wp2_with (first
          | (go_at_fn g; refine HC.out.mono ?_; rintro e w1 ⟨rfl, hb⟩; obtain ⟨u0, u1, u2⟩ := (HBX.out.below hb).cells; have ho1 := own_below_pt HO.out hb; have hb1 := HBW.out.trans (hb.mono HBW.out.size); have HO1 := Lib.hid ho1; have HB1 := Lib.hid hb1; have hs1 := hb1.size; simp only at u0 u1 u2; clear hb ho1 hb1)
          | (at_builtin; go_must (refine wpList_append_pt rfl _ _ rfl rfl w.heap.size _ acc rfl (HO1.out.alloc _) _ 1 [(x1, x2, x3)] rfl (rd_row _ [.int .i64 x1, .int .u64 x2, .int .u64 x3] 25) (by simp; omega) (by simp; omega) ?_; intro v3 w3 own3 grow3))
          | fail)
        have hb3 : RowKit.Below w.heap.size w w3 := (HB1.out.alloc hs1 _).grown grow3 (by simp; omega) (fun k h => (HO1.out.lt k h).1)
        have HB3 := Lib.hid hb3; have HO3 := Lib.hid own3; clear hb3 own3 grow3
        go_roundw
        case rel => exact ⟨k + 1, acc ++ [(x1, x2, x3)], by go_num, by omega, by simp; omega, (show Aside _ from HO3.out), (show Aside _ from HB3.out), (show Aside _ from HE.out)⟩
        case measure => simp [intOf]; omega
      | false =>
        rw [if_neg (by simp)] at hE
        have HE := Lib.hid hE; clear hE
        go_wp2_with (first
          | (go_at_fn g; refine HC.out.mono ?_; rintro e w1 ⟨rfl, hb⟩; have ho1 := own_below_pt HO.out hb; have hb1 := HBW.out.trans (hb.mono HBW.out.size); have HO1 := Lib.hid ho1; have HB1 := Lib.hid hb1; clear hb ho1 hb1)
          | fail)
        go_roundw
        case rel => exact ⟨k + 1, acc, by go_num, by omega, by omega, (show Aside _ from HO1.out), (show Aside _ from HB1.out), (show Aside _ from HE.out)⟩
        case measure => simp [intOf]; omega
    · obtain rfl : k = l.length := by omega
      have hE := E.out
      rw [List.drop_length, List.filter_nil, List.append_nil] at hE
      have HE := Lib.hid hE; have HO := Lib.hid OW.out; have HB := Lib.hid BW.out; clear hE E OW BW
      go_wp2
      go_ret
      exact ⟨A6, c6, by rw [HE.out]; rfl, by rw [HE.out]; exact HO.out, HB.out⟩
theorem win_any (A : Option Addr) (c : Nat) (l : List Pt) (t width : Int) (w : World) (hx : Rd w A (pcells l)) (hl : l.length ≤ 2000) :
    Calls Try.prog 38 #[.slice A l.length c, .int .i64 t, .int .u64 width] w fun e w' => ∃ A' c', e = .returned (.slice A' (l.filter (nearB t width)).length c') ∧ w'.ownsRow w.heap.size 25 3 (.slice A' (l.filter (nearB t width)).length c') (l.filter (nearB t width)).length (pcells (l.filter (nearB t width))) ∧ RowKit.Below w.heap.size w w' := by
  have hmf : ∀ (fn : Fn) (first cap : Array Value) (w : World), (Instr.makeFunc fn first cap).run Try.prog w = .ok (.func fn first cap) w := fun _ _ _ _ => rfl
  obtain ⟨W, hW⟩ : ∃ W, W = (w.alloc (.cells #[.int .i64 t] 2)).alloc (.cells #[.int .u64 width] 23) := ⟨_, rfl⟩
  have hb0 : RowKit.Below w.heap.size w W := by rw [hW]; exact ((RowKit.Below.refl _ w).alloc (Nat.le_refl _) _).alloc (by simp) _
  have h1 : W.heap[w.heap.size]? = some (.cells #[.int .i64 t] 2 (0, 0)) := by rw [hW]; exact (Below.heap_alloc _ _ _ (by simp)).trans (heap_alloc_new w _)
  have h2 : W.heap[w.heap.size + 1]? = some (.cells #[.int .u64 width] 23 (0, 0)) := by rw [hW]; exact heap_alloc_new2 w _ _
  have egk : ∀ args w, (callFunc 62 args).run Try.prog w = .ok (.enter 62 args) w := enters_of Try.func62 (by kernel_rfl) rfl
  have hcl := those_any A c l W 62 #[.pointer (some ⟨w.heap.size, 0, none⟩), .pointer (some ⟨w.heap.size + 1, 0, none⟩)] (nearB t width) egk
    (fun W' x hW' => win1_tells w.heap.size (w.heap.size + 1) t width W' x ⟨(hW'.block _ (blk_lt h1)).trans h1, (hW'.block _ (blk_lt h2)).trans h2⟩) (hx.below hb0) hl
  have HC := Lib.hid hcl; have HB0 := Lib.hid hb0; have HW := Lib.hid hW
  clear hcl hb0 hx egk h1 h2 hW
  go_enter Try.func38, Try.ntmps38
  go_wp2_with fail
  rw [← HW.out]
  go_wp2_with (first | (go_at_call 61; refine HC.out.mono ?_; rintro e w1 ⟨A', c', rfl, ho, hb⟩) | fail)
  go_ret
  exact ⟨A', c', rfl, ho.lower HB0.out.size, HB0.out.trans (hb.mono HB0.out.size)⟩
end
end Go.Proofs.Ytinjdlplbficiaa
