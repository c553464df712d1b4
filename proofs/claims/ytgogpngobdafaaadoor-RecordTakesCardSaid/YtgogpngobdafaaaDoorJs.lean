/-
  The point that bytes begin with, behind another one: the plain answers' one. Written by genjs.py.
-/
import Derived.Deep.RegionHeld3
import Derived.Test.YtgogpngobdafaaaDoorJr
import Derived.Test.YtgogpngobdafaaaDoorBg
namespace Go.Proofs.YtgogpngobdafaaaDoor
set_option linter.unusedVariables false
set_option linter.unusedSimpArgs false
open Go.RowKit
theorem wpList_slice_every {w : World} {ops : Array Oper} {rest : List Oper} {o : Oper} {a : Act} {Q : Exit → Act → World → Prop} (hgd : o.guard = none) (ty : TypeId) (x : Operand) (lo hi : Option Operand)
    (ho : o.op = .slice ty x lo hi none) (e : TypeId) (hu : Tryd.prog.underlying ty = some (.slice e)) (hs : (Tryd.prog.info? e).map (·.size) = some 1) (A : Option Addr) (n c l h : Nat) (hx : a.eval x = .slice A n c)
    (hlo : lo.map a.eval = some (.int .i64 (l : Nat)) ∨ lo = none ∧ l = 0) (hhi : hi.map a.eval = some (.int .i64 (h : Nat)) ∨ hi = none ∧ h = n) (hl : l ≤ h) (hh : h ≤ c)
    (hK : ∀ A', (∀ (W : World) (vs : List Value), vs.length ≤ c → Rd W A vs → Rd W A' (vs.drop l)) → wpList Tryd.prog ops Q rest (a.put o.dst (.slice A' (h - l) (c - l))) w) : wpList Tryd.prog ops Q (o :: rest) a w := by
  obtain ⟨A', hr, hv⟩ := run_slice_all (P := Tryd.prog) ty e A n c l h (lo.map a.eval) (hi.map a.eval) hu hs (by rcases hlo with h | ⟨rfl, h⟩; exact .inl h; exact .inr ⟨rfl, h⟩) (by rcases hhi with h | ⟨rfl, h⟩; exact .inl h; exact .inr ⟨rfl, h⟩) hl hh
  refine wpList_plain hgd fun K hK' => ?_
  unfold Oper.wp
  simp only [execOp, ho, hx, Option.map_none, Sem.run_bind, Sem.run_pure, hr, Result.andThen_ok]
  exact hK' _ _ (hK A' hv)
theorem results_en3 {fn : Func} {p u v : Tmp} (h : fn.results = #[.cell p 47, .tmp u, .tmp v]) (tmps : Array Value) (w : World) (g : Nat) (cs : Array Value)
    (hp : tmps.getD p undef = .pointer (some ⟨g, 0, none⟩)) (hg : w.heap[g]? = some (.cells cs 47 (0, 0))) (hc : cs.size = 4) :
    (results fn tmps).run Tryd.prog w = .ok (.tuple #[.agg cs, tmps.getD u undef, tmps.getD v undef]) w := by
  have hp' : tmps[p]?.getD undef = .pointer (some ⟨g, 0, none⟩) := by simpa using hp
  simp [results, h, hp', asAddr, run_loadVar_row w g 47 47 cs (0, 0) _ hg Tryd.underlying47 rfl (by rw [hc]; kernel_rfl)]
theorem post_en3 {fn : Func} {R : Ending → World → Prop} {a : Act} {w : World} {p u v : Tmp} (h : fn.results = #[.cell p 47, .tmp u, .tmp v]) (g : Nat) (cs : Array Value)
    (hp : a.tmps.getD p undef = .pointer (some ⟨g, 0, none⟩)) (hg : w.heap[g]? = some (.cells cs 47 (0, 0))) (hc : cs.size = 4) (hdf : a.defers = [])
    (hR : R (.returned (.tuple #[.agg cs, a.tmps.getD u undef, a.tmps.getD v undef])) w) : bodyPost Tryd.prog fn R .ret a w :=
  bodyPost_ret (results_en3 h a.tmps w g cs hp hg hc) hdf hR
/-- What one hands back: a point, what stands behind it, what is wrong. -/
def OneRes (w : World) (A : Option Addr) (c : Nat) (xs : Bs) (R : En × Nat × Nat) (e : Ending) (w' : World) : Prop := ∃ (X : En) (A' : Option Addr) (L c' : Nat), e = .returned (.tuple #[aggEn X, .slice A' L c', .int .i64 (R.2.2 : Nat)]) ∧
  (R.2.2 = 0 → X = R.1 ∧ L = xs.length - R.2.1 ∧ (∀ W, Rd W A (xs.map Bv) → Rd W A' ((xs.drop R.2.1).map Bv)) ∧ L ≤ c' ∧ c' ≤ c) ∧ Below w.heap.size w w'
theorem viT_r (n k e : Nat) : viT (n, k, e) = .tuple #[.int .i64 (if e = 0 then zagN n else 0), .int .i64 (k : Int), .int .i64 (e : Int)] := rfl
section
set_option maxHeartbeats 3200000
set_option maxRecDepth 100000
theorem one_any (A : Option Addr) (c len : Nat) (xs : Bs) (p : En) (w : World) (hle : xs.length = len) (hx : Rd w A (xs.map Bv)) (hc : len ≤ c) (hl : len ≤ 1000000) (hcm : c ≤ 9223372036854775807) (hp : EnOk p) :
    Calls Tryd.prog 52 #[.slice A len c, aggEn p] w (OneRes w A c xs (enAt p xs)) := by
  subst hle
  obtain ⟨R, hR⟩ : ∃ R, R = enAt p xs := ⟨_, rfl⟩
  rw [← hR]
  obtain ⟨p1, p2, p3, p4⟩ := p
  obtain ⟨o1, o2, o3, o4, o5⟩ := hp
  simp only at o1 o2 o3 o4 o5
  unfold aggEn boxEn
  simp only
  obtain ⟨w2, hw2⟩ : ∃ w2, w2 = (w.alloc (.cells #[.int .u32 (p1 : Nat), .int .i64 p2, .int .u64 (p3 : Nat), .int .u64 (p4 : Nat)] 47)).alloc (.cells #[.int .u32 0, .int .i64 0, .int .u64 0, .int .u64 0] 47) := ⟨_, rfl⟩
  obtain ⟨b3, hb3⟩ : ∃ b, b = w.heap.size := ⟨_, rfl⟩
  obtain ⟨b4, hb4⟩ : ∃ b, b = w.heap.size + 1 := ⟨_, rfl⟩
  have hE3 : EBox w2 b3 (p1, p2, p3, p4) := by rw [hw2, hb3]; exact (Below.heap_alloc _ _ _ (by simp)).trans (heap_alloc_new w _)
  have hE4 : w2.heap[b4]? = some (.cells (boxEn en0) 47 (0, 0)) := by rw [hw2, hb4]; exact heap_alloc_new2 w _ _
  have hbe : RowKit.Below w.heap.size w w2 := by rw [hw2]; exact ((RowKit.Below.refl _ w).alloc (Nat.le_refl _) _).alloc (by simp) _
  have H4B := Lib.hid (show w.heap.size ≤ b4 by omega)
  obtain ⟨X0, X1, X2, X3⟩ := hE3.cells
  simp only at X0 X1 X2 X3
  have HX1 := Lib.hid hx
  have HE3 := Lib.hid hE3; have H4 := Lib.hid hE4; have HB2 := Lib.hid hbe
  have HW2 := Lib.hid hw2; have HB3 := Lib.hid hb3; have HB4 := Lib.hid hb4
  clear hw2 hb3 hb4 hE3 hE4 hbe hx
  have hu := rvarint_any A c xs w2 (HX1.out.below HB2.out) (by omega)
  have hk1 := uvS_le' xs
  unfold enAt at hR
  simp only at hR
  generalize uvS 0 0 xs = U at hu hk1 hR
  obtain ⟨m1, k1, e1⟩ := U
  rw [viT_r] at hu
  simp only at hk1 hR
  by_cases he1 : e1 = 0
  · subst he1
    rw [if_pos rfl] at hu
    rw [if_neg (by simp)] at hR
    obtain ⟨z1, hz1⟩ : ∃ z, z = zagN m1 := ⟨_, rfl⟩
    rw [← hz1] at hu hR
    have ha1 := ad_wrap p1 z1
    obtain ⟨D1, hD1⟩ : ∃ D, D = IntKind.u64.wrap z1 := ⟨_, rfl⟩
    rw [← hD1] at ha1
    have hl1 := ad_lt p1 z1
    generalize ad p1 z1 = r1 at ha1 hl1 hR
    have hD1' : IntKind.u64.wrap z1 = D1 := hD1.symm
    have HU := Lib.hid hu
    clear hu hz1 hD1
    by_cases hq1 : r1 = 0 ∨ 4294967295 < r1
    · rw [if_pos hq1] at hR
      have HR := Lib.hid hR
      clear hR
      by_cases hy1 : (r1 : Int) < 1
      · clear hq1
        go_enter Tryd.func52, Tryd.ntmps52
        go_wp2_with fail
        rw [← HB4.out, ← HB3.out, ← HW2.out]
        refine HU.out.mono ?_
        rintro e w3 ⟨rfl, rfl⟩
        go_wp2_with (first
          | (refine wpList_slice_every (o := ⟨some 26, _, _, _, _, _⟩) ?_ 30 (.tmp 24) (some (.tmp 25)) none ?_ 5 Tryd.underlying30 (by kernel_rfl) A xs.length c k1 xs.length ?_ ?_ ?_ (by assumption) (by assumption) ?_; rfl; rfl; rfl; exact .inl rfl; exact .inr ⟨rfl, rfl⟩; intro A2 hrd2)
          | (refine wpList_store_agg (o := ⟨none, _, _, _, _, _⟩) ?_ 47 (.tmp 4) (.tmp 39) ?_ b4 0 [.int .u32 (p1 : Nat), .int .i64 p2, .int .u64 (p3 : Nat), .int .u64 (p4 : Nat)] ?_ ?_ 47 _ H4.out (by kernel_rfl) (by show 0 + 4 ≤ 4; decide) (by intro v hv; simp at hv; rcases hv with rfl | rfl | rfl | rfl <;> rfl) ?_; rfl; rfl; rfl; rfl; intro w9 hg9 hmv9 hs9)
          | fail)
        refine post_en3 (by rfl) b4 (boxEn (p1, p2, p3, p4)) (by rfl) hg9 (by rfl) (by rfl) ?_
        exact ⟨(p1, p2, p3, p4), none, 0, 0, by rw [HR.out]; rfl, fun h => absurd h (by rw [HR.out]; simp only; omega), HB2.out.trans (hmv9.belowB HB2.out.size (fun i hi e => by have := H4B.out; omega))⟩
      · have hy2 : (4294967295 : Int) < (r1 : Int) := by omega
        clear hq1
        go_enter Tryd.func52, Tryd.ntmps52
        go_wp2_with fail
        rw [← HB4.out, ← HB3.out, ← HW2.out]
        refine HU.out.mono ?_
        rintro e w3 ⟨rfl, rfl⟩
        go_wp2_with (first
          | (refine wpList_slice_every (o := ⟨some 26, _, _, _, _, _⟩) ?_ 30 (.tmp 24) (some (.tmp 25)) none ?_ 5 Tryd.underlying30 (by kernel_rfl) A xs.length c k1 xs.length ?_ ?_ ?_ (by assumption) (by assumption) ?_; rfl; rfl; rfl; exact .inl rfl; exact .inr ⟨rfl, rfl⟩; intro A2 hrd2)
          | (refine wpList_store_agg (o := ⟨none, _, _, _, _, _⟩) ?_ 47 (.tmp 4) (.tmp 39) ?_ b4 0 [.int .u32 (p1 : Nat), .int .i64 p2, .int .u64 (p3 : Nat), .int .u64 (p4 : Nat)] ?_ ?_ 47 _ H4.out (by kernel_rfl) (by show 0 + 4 ≤ 4; decide) (by intro v hv; simp at hv; rcases hv with rfl | rfl | rfl | rfl <;> rfl) ?_; rfl; rfl; rfl; rfl; intro w9 hg9 hmv9 hs9)
          | fail)
        refine post_en3 (by rfl) b4 (boxEn (p1, p2, p3, p4)) (by rfl) hg9 (by rfl) (by rfl) ?_
        exact ⟨(p1, p2, p3, p4), none, 0, 0, by rw [HR.out]; rfl, fun h => absurd h (by rw [HR.out]; simp only; omega), HB2.out.trans (hmv9.belowB HB2.out.size (fun i hi e => by have := H4B.out; omega))⟩
    · rw [if_neg hq1] at hR
      have hy1 : ¬ (r1 : Int) < 1 := by omega
      have hy2 : ¬ (4294967295 : Int) < (r1 : Int) := by omega
      have hr32 : r1 < 4294967296 := by omega
      obtain ⟨y2, hyx2⟩ : ∃ y, y = xs.drop k1 := ⟨_, rfl⟩
      have hyl2 : y2.length = xs.length - k1 := by rw [hyx2, List.length_drop]
      obtain ⟨c2, hc2⟩ : ∃ d, d = c - k1 := ⟨_, rfl⟩
      have hlc2 : y2.length ≤ c2 := by omega
      unfold en1 at hR
      rw [← hyx2] at hR
      have hu := fun A2 (h : Rd w2 A2 (y2.map Bv)) => rvarint_any A2 c2 y2 w2 h (by omega)
      have hk2 := uvS_le' y2
      generalize uvS 0 0 y2 = U at hu hk2 hR
      obtain ⟨m2, k2, e2⟩ := U
      rw [viT_r] at hu
      simp only at hk2 hR
      have HU2 := Lib.hid hu; have HR := Lib.hid hR
      have HYX2 := Lib.hid hyx2; have HYL2 := Lib.hid hyl2; have HC2 := Lib.hid hc2
      clear hu hq1 hyx2 hyl2 hc2 hR
      go_enter Tryd.func52, Tryd.ntmps52
      go_wp2_with fail
      rw [← HB4.out, ← HB3.out, ← HW2.out]
      refine HU.out.mono ?_
      rintro e w3 ⟨rfl, rfl⟩
      go_wp2_with (first
        | (refine wpList_slice_every (o := ⟨some 26, _, _, _, _, _⟩) ?_ 30 (.tmp 24) (some (.tmp 25)) none ?_ 5 Tryd.underlying30 (by kernel_rfl) A xs.length c k1 xs.length ?_ ?_ ?_ (by assumption) (by assumption) ?_; rfl; rfl; rfl; exact .inl rfl; exact .inr ⟨rfl, rfl⟩; intro A2 hrd2)
        | fail)
      have hr2 := hrd2 w _ (by rw [List.length_map]; exact hc) HX1.out
      rw [← List.map_drop, ← HYX2.out] at hr2
      have HX2 := Lib.hid hr2; have HRD2 := Lib.hid hrd2; clear hr2 hrd2
      rw [← HYL2.out, ← HC2.out]
      refine (HU2.out _ (HX2.out.below HB2.out)).mono ?_
      rintro e w3 ⟨rfl, rfl⟩
      have hR := HR.out
      clear HR
      by_cases he2 : e2 = 0
      · subst he2
        rw [if_neg (by simp)] at hR
        rw [if_pos rfl]
        obtain ⟨z2, hz2⟩ : ∃ z, z = zagN m2 := ⟨_, rfl⟩
        rw [← hz2] at hR ⊢
        obtain ⟨tn, htn⟩ : ∃ t, t = (IntKind.u64.wrap p2).toNat := ⟨_, rfl⟩
        have hT : IntKind.u64.wrap p2 = (tn : Int) := by rw [htn]; have := IntKind.wrap_u64 (n := p2); rw [IntKind.wrap_u64]; omega
        have htl : tn < 18446744073709551616 := by rw [IntKind.wrap_u64] at hT; omega
        have hta : ad (tn : Int) z2 = ad p2 z2 := by rw [htn]; exact ad_wrapT p2 z2
        have ha2 := ad_wrap tn z2
        rw [hta] at ha2
        obtain ⟨D2, hD2⟩ : ∃ D, D = IntKind.u64.wrap z2 := ⟨_, rfl⟩
        rw [← hD2] at ha2
        have hD2' : IntKind.u64.wrap z2 = D2 := hD2.symm
        have hl2 := ad_lt p2 z2
        generalize ad p2 z2 = r2 at ha2 hl2 hR
        obtain ⟨y3, hyx3⟩ : ∃ y, y = y2.drop k2 := ⟨_, rfl⟩
        have hyl3 : y3.length = y2.length - k2 := by rw [hyx3, List.length_drop]
        obtain ⟨c3, hc3⟩ : ∃ d, d = c2 - k2 := ⟨_, rfl⟩
        have hlc3 : y3.length ≤ c3 := by omega
        unfold en2 at hR
        simp only at hR
        rw [← hyx3] at hR
        have hl2' := HYL2.out
        have hu := fun A2 (h : Rd w2 A2 (y3.map Bv)) => rvarint_any A2 c3 y3 w2 h (by omega)
        have hk3 := uvS_le' y3
        generalize uvS 0 0 y3 = U at hu hk3 hR
        obtain ⟨m3, k3, e3⟩ := U
        rw [viT_r] at hu
        simp only at hk3 hR
        have HU3 := Lib.hid hu; have HR := Lib.hid hR
        have HYX3 := Lib.hid hyx3; have HYL3 := Lib.hid hyl3; have HC3 := Lib.hid hc3
        clear hu hyx3 hyl3 hc3 hR hz2 hD2 htn hta hl2'
        go_wp2_with (first
          | (refine wpList_slice_every (o := ⟨some 52, _, _, _, _, _⟩) ?_ 30 (.tmp 50) (some (.tmp 51)) none ?_ 5 Tryd.underlying30 (by kernel_rfl) A2 y2.length c2 k2 y2.length ?_ ?_ ?_ (by assumption) (by assumption) ?_; rfl; rfl; rfl; exact .inl rfl; exact .inr ⟨rfl, rfl⟩; intro A3 hrd3)
          | fail)
        have hr3 := hrd3 w _ (by rw [List.length_map]; exact hlc2) HX2.out
        rw [← List.map_drop, ← HYX3.out] at hr3
        have HX3 := Lib.hid hr3; have HRD3 := Lib.hid hrd3; clear hr3 hrd3
        rw [← HYL3.out, ← HC3.out]
        refine (HU3.out _ (HX3.out.below HB2.out)).mono ?_
        rintro e w3 ⟨rfl, rfl⟩
        have hR := HR.out
        clear HR
        by_cases he3 : e3 = 0
        · subst he3
          rw [if_neg (by simp)] at hR
          rw [if_pos rfl]
          obtain ⟨z3, hz3⟩ : ∃ z, z = zagN m3 := ⟨_, rfl⟩
          rw [← hz3] at hR ⊢
          have ha3 := ad_wrap p4 z3
          obtain ⟨D3, hD3⟩ : ∃ D, D = IntKind.u64.wrap z3 := ⟨_, rfl⟩
          rw [← hD3] at ha3
          have hD3' : IntKind.u64.wrap z3 = D3 := hD3.symm
          have hl3 := ad_lt p4 z3
          generalize ad p4 z3 = r3 at ha3 hl3 hR
          have hsg := sg_wrap r2
          generalize sg r2 = T2 at hsg hR
          obtain ⟨y4, hyx4⟩ : ∃ y, y = y3.drop k3 := ⟨_, rfl⟩
          have hyl4 : y4.length = y3.length - k3 := by rw [hyx4, List.length_drop]
          obtain ⟨c4, hc4⟩ : ∃ d, d = c3 - k3 := ⟨_, rfl⟩
          have hlc4 : y4.length ≤ c4 := by omega
          unfold en3 at hR
          rw [← hyx4] at hR
          have HYX4 := Lib.hid hyx4; have HYL4 := Lib.hid hyl4; have HC4 := Lib.hid hc4
          obtain ⟨gx, hgx⟩ : ∃ g, g = w2.heap.size := ⟨_, rfl⟩
          have HGX := Lib.hid hgx
          have hwx : w.heap.size ≤ gx := by rw [hgx]; exact HB2.out.size
          have hnx : gx ≠ b4 ∧ gx ≠ b3 := ⟨by rw [hgx]; have := blk_lt H4.out; omega, by rw [hgx]; have := blk_lt HE3.out; omega⟩
          have HNX := Lib.hid hnx; have HWX := Lib.hid hwx
          have hba := (RowKit.Below.refl w2.heap.size w2).alloc (Nat.le_refl _) (.cells #[.int .u32 0, .int .i64 0, .int .u64 0, .int .u64 0] 47)
          have HBA := Lib.hid hba
          have HNW := Lib.hid (show (w2.alloc (.cells #[.int .u32 0, .int .i64 0, .int .u64 0, .int .u64 0] 47)).heap[gx]? = some (.cells (boxEn en0) 47 (0, 0)) from by rw [hgx]; exact heap_alloc_new w2 _)
          clear hyx4 hyl4 hc4 hz3 hD3 hgx hwx hnx hba
          by_cases hq3 : r3 = 0
          · rw [if_pos hq3] at hR
            have g3 : ((r3 : Int) == 0) = true := by rw [hq3]; rfl
            have HR := Lib.hid hR
            clear hR hq3
            have HBX := Lib.hid (HB2.out.trans (HBA.out.mono HB2.out.size))
            go_wp2_with (first
              | (refine wpList_slice_every (o := ⟨some 65, _, _, _, _, _⟩) ?_ 30 (.tmp 63) (some (.tmp 64)) none ?_ 5 Tryd.underlying30 (by kernel_rfl) A3 y3.length c3 k3 y3.length ?_ ?_ ?_ (by assumption) (by assumption) ?_; rfl; rfl; rfl; exact .inl rfl; exact .inr ⟨rfl, rfl⟩; intro A4 hrd4)
              | (refine wpList_store_agg (o := ⟨none, _, _, _, _, _⟩) ?_ 47 (.tmp 13) (.tmp 83) ?_ w2.heap.size 0 [.int .u32 (r1 : Nat), .int .i64 T2, .int .u64 0, .int .u64 (r3 : Nat)] ?_ ?_ 47 _ (by have h := HNW.out; rw [HGX.out] at h; exact h) (by kernel_rfl) (by show 0 + 4 ≤ 4; decide) (by intro v hv; simp at hv; rcases hv with rfl | rfl | rfl | rfl <;> rfl) ?_; rfl; rfl; rfl; rfl; intro w8 hg8 hmv8 hs8; have hX8 : EBox w8 gx (r1, T2, 0, r3) := (by have h := hg8; rw [← HGX.out] at h; exact h); rw [← HGX.out] at hmv8 ⊢; obtain ⟨Z0, Z1, Z2, Z3⟩ := hX8.cells; simp only at Z0 Z1 Z2 Z3; have hE8 : EBox w8 b3 (p1, p2, p3, p4) := keep_mv hmv8 ((HBA.out.block _ (blk_lt HE3.out)).trans HE3.out) (Ne.symm HNX.out.2); have h48 := keep_mv hmv8 ((HBA.out.block _ (blk_lt H4.out)).trans H4.out) (Ne.symm HNX.out.1); have hb8 : RowKit.Below w.heap.size w w8 := (HB2.out.trans (HBA.out.mono HB2.out.size)).trans (hmv8.belowB (HB2.out.trans (HBA.out.mono HB2.out.size)).size (fun i hi e => by have := HWX.out; omega)); have HX8 := Lib.hid hX8; have HE8 := Lib.hid hE8; have H48 := Lib.hid h48; have HB8 := Lib.hid hb8; clear X0 X1 X2 X3; obtain ⟨X0, X1, X2, X3⟩ := HE8.out.cells; simp only at X0 X1 X2 X3; clear hX8 hE8 h48 hb8)
              | (refine wpList_store_agg (o := ⟨none, _, _, _, _, _⟩) ?_ 47 (.tmp 4) (.tmp 88) ?_ b4 0 [.int .u32 (p1 : Nat), .int .i64 p2, .int .u64 (p3 : Nat), .int .u64 (p4 : Nat)] ?_ ?_ 47 _ H48.out (by kernel_rfl) (by show 0 + 4 ≤ 4; decide) (by intro v hv; simp at hv; rcases hv with rfl | rfl | rfl | rfl <;> rfl) ?_; rfl; rfl; rfl; rfl; intro w9 hg9 hmv9 hs9)
              | fail)
            refine post_en3 (by rfl) b4 (boxEn (p1, p2, p3, p4)) (by rfl) hg9 (by rfl) (by rfl) ?_
            exact ⟨(p1, p2, p3, p4), none, 0, 0, by rw [HR.out]; rfl, fun h => absurd h (by rw [HR.out]; simp only; omega), HB8.out.trans (hmv9.belowB HB8.out.size (fun i hi e => by have := H4B.out; omega))⟩
          · have g3 : ((r3 : Int) == 0) = false := by rw [beq_eq_false_iff_ne]; omega
            rw [if_neg hq3] at hR
            clear hq3
            by_cases h8 : y4.length < 8
            · rw [if_pos h8] at hR
              have g8 : (y4.length : Int) < 8 := by omega
              have HR := Lib.hid hR
              clear hR h8
              go_wp2_with (first
                | (refine wpList_slice_every (o := ⟨some 65, _, _, _, _, _⟩) ?_ 30 (.tmp 63) (some (.tmp 64)) none ?_ 5 Tryd.underlying30 (by kernel_rfl) A3 y3.length c3 k3 y3.length ?_ ?_ ?_ (by assumption) (by assumption) ?_; rfl; rfl; rfl; exact .inl rfl; exact .inr ⟨rfl, rfl⟩; intro A4 hrd4; rw [← HYL4.out, ← HC4.out])
                | (refine wpList_store_agg (o := ⟨none, _, _, _, _, _⟩) ?_ 47 (.tmp 13) (.tmp 83) ?_ w2.heap.size 0 [.int .u32 (r1 : Nat), .int .i64 T2, .int .u64 0, .int .u64 (r3 : Nat)] ?_ ?_ 47 _ (by have h := HNW.out; rw [HGX.out] at h; exact h) (by kernel_rfl) (by show 0 + 4 ≤ 4; decide) (by intro v hv; simp at hv; rcases hv with rfl | rfl | rfl | rfl <;> rfl) ?_; rfl; rfl; rfl; rfl; intro w8 hg8 hmv8 hs8; have hX8 : EBox w8 gx (r1, T2, 0, r3) := (by have h := hg8; rw [← HGX.out] at h; exact h); rw [← HGX.out] at hmv8 ⊢; obtain ⟨Z0, Z1, Z2, Z3⟩ := hX8.cells; simp only at Z0 Z1 Z2 Z3; have hE8 : EBox w8 b3 (p1, p2, p3, p4) := keep_mv hmv8 ((HBA.out.block _ (blk_lt HE3.out)).trans HE3.out) (Ne.symm HNX.out.2); have h48 := keep_mv hmv8 ((HBA.out.block _ (blk_lt H4.out)).trans H4.out) (Ne.symm HNX.out.1); have hb8 : RowKit.Below w.heap.size w w8 := (HB2.out.trans (HBA.out.mono HB2.out.size)).trans (hmv8.belowB (HB2.out.trans (HBA.out.mono HB2.out.size)).size (fun i hi e => by have := HWX.out; omega)); have HX8 := Lib.hid hX8; have HE8 := Lib.hid hE8; have H48 := Lib.hid h48; have HB8 := Lib.hid hb8; clear X0 X1 X2 X3; obtain ⟨X0, X1, X2, X3⟩ := HE8.out.cells; simp only at X0 X1 X2 X3; clear hX8 hE8 h48 hb8)
                | (refine wpList_store_agg (o := ⟨none, _, _, _, _, _⟩) ?_ 47 (.tmp 4) (.tmp 92) ?_ b4 0 [.int .u32 (p1 : Nat), .int .i64 p2, .int .u64 (p3 : Nat), .int .u64 (p4 : Nat)] ?_ ?_ 47 _ H48.out (by kernel_rfl) (by show 0 + 4 ≤ 4; decide) (by intro v hv; simp at hv; rcases hv with rfl | rfl | rfl | rfl <;> rfl) ?_; rfl; rfl; rfl; rfl; intro w9 hg9 hmv9 hs9)
                | fail)
              refine post_en3 (by rfl) b4 (boxEn (p1, p2, p3, p4)) (by rfl) hg9 (by rfl) (by rfl) ?_
              exact ⟨(p1, p2, p3, p4), none, 0, 0, by rw [HR.out]; rfl, fun h => absurd h (by rw [HR.out]; simp only; omega), HB8.out.trans (hmv9.belowB HB8.out.size (fun i hi e => by have := H4B.out; omega))⟩
            · rw [if_neg h8] at hR
              have g8 : ¬ (y4.length : Int) < 8 := by omega
              have g8' : 8 ≤ y4.length := by omega
              have g8c : 8 ≤ c4 := by omega
              have HR := Lib.hid hR
              clear hR h8
              go_wp2_with (first
                | (refine wpList_slice_every (o := ⟨some 65, _, _, _, _, _⟩) ?_ 30 (.tmp 63) (some (.tmp 64)) none ?_ 5 Tryd.underlying30 (by kernel_rfl) A3 y3.length c3 k3 y3.length ?_ ?_ ?_ (by assumption) (by assumption) ?_; rfl; rfl; rfl; exact .inl rfl; exact .inr ⟨rfl, rfl⟩; intro A4 hrd4; rw [← HYL4.out, ← HC4.out])
                | (refine wpList_store_agg (o := ⟨none, _, _, _, _, _⟩) ?_ 47 (.tmp 13) (.tmp 83) ?_ w2.heap.size 0 [.int .u32 (r1 : Nat), .int .i64 T2, .int .u64 0, .int .u64 (r3 : Nat)] ?_ ?_ 47 _ (by have h := HNW.out; rw [HGX.out] at h; exact h) (by kernel_rfl) (by show 0 + 4 ≤ 4; decide) (by intro v hv; simp at hv; rcases hv with rfl | rfl | rfl | rfl <;> rfl) ?_; rfl; rfl; rfl; rfl; intro w8 hg8 hmv8 hs8; have hX8 : EBox w8 gx (r1, T2, 0, r3) := (by have h := hg8; rw [← HGX.out] at h; exact h); rw [← HGX.out] at hmv8 ⊢; obtain ⟨Z0, Z1, Z2, Z3⟩ := hX8.cells; simp only at Z0 Z1 Z2 Z3; have hE8 : EBox w8 b3 (p1, p2, p3, p4) := keep_mv hmv8 ((HBA.out.block _ (blk_lt HE3.out)).trans HE3.out) (Ne.symm HNX.out.2); have h48 := keep_mv hmv8 ((HBA.out.block _ (blk_lt H4.out)).trans H4.out) (Ne.symm HNX.out.1); have hb8 : RowKit.Below w.heap.size w w8 := (HB2.out.trans (HBA.out.mono HB2.out.size)).trans (hmv8.belowB (HB2.out.trans (HBA.out.mono HB2.out.size)).size (fun i hi e => by have := HWX.out; omega)); have HX8 := Lib.hid hX8; have HE8 := Lib.hid hE8; have H48 := Lib.hid h48; have HB8 := Lib.hid hb8; clear X0 X1 X2 X3; obtain ⟨X0, X1, X2, X3⟩ := HE8.out.cells; simp only at X0 X1 X2 X3; clear hX8 hE8 h48 hb8)
                | (refine wpList_slice_every (o := ⟨some 94, _, _, _, _, _⟩) ?_ 30 (.tmp 93) none (some (.const (.int .i64 8))) ?_ 5 Tryd.underlying30 (by kernel_rfl) A4 y4.length c4 0 8 ?_ ?_ ?_ (Nat.zero_le _) (by assumption) ?_; rfl; rfl; rfl; exact .inr ⟨rfl, rfl⟩; exact .inl rfl; intro A5 hrd5)
                | fail)
              have hr4 := hrd4 w _ (by rw [List.length_map]; exact hlc3) HX3.out
              rw [← List.map_drop, ← HYX4.out] at hr4
              have hr5 := hrd5 w _ (by rw [List.length_map]; exact hlc4) hr4
              rw [List.drop_zero] at hr5
              have HR5 := Lib.hid ((hr5.bytes_take 8).below HB8.out)
              obtain ⟨A6, hsl, hrd6⟩ := run_slice_all (P := Tryd.prog) 30 5 A4 y4.length c4 8 y4.length (some (.int .i64 8)) none Tryd.underlying30 (by kernel_rfl) (.inl rfl) (.inr ⟨rfl, rfl⟩) g8' hlc4
              have hr6 : ∀ W, Rd W A (xs.map Bv) → Rd W A6 ((y4.drop 8).map Bv) := fun W h => by
                have h2 := HRD2.out W _ (by rw [List.length_map]; exact hc) h
                rw [← List.map_drop, ← HYX2.out] at h2
                have h3 := HRD3.out W _ (by rw [List.length_map]; exact hlc2) h2
                rw [← List.map_drop, ← HYX3.out] at h3
                have h4 := hrd4 W _ (by rw [List.length_map]; exact hlc3) h3
                rw [← List.map_drop, ← HYX4.out] at h4
                have h6 := hrd6 W _ (by rw [List.length_map]; exact hlc4) h4
                rw [← List.map_drop] at h6
                exact h6
              have HR6 := Lib.hid hr6
              clear hr4 hr5 hr6 hrd4 hrd5 hrd6
              refine (rof_any w8 A5 _ 8 (y4.take 8) (by rw [List.length_take]; omega) (by omega) HR5.out).mono ?_
              rintro e w10 ⟨rfl, hb10⟩
              rw [natOf_ofB]
              have hR := HR.out
              clear HR
              generalize ofB (y4.take 8) = V at hR ⊢
              have hX10 : EBox w10 gx (r1, T2, 0, r3) := (hb10.block _ (blk_lt HX8.out)).trans HX8.out
              have h410 := (hb10.block _ (blk_lt H48.out)).trans H48.out
              have hb10' := HB8.out.trans (hb10.mono HB8.out.size)
              have F2 := free_blk hX10 2
              obtain ⟨w11, hw11⟩ : ∃ w', w' = w10.setCell ⟨gx, 2, none⟩ (.int .u64 (V : Nat)) := ⟨_, rfl⟩
              have hm11 : Mv (fun i => i = gx) w10 w11 := by rw [hw11]; exact Mv.setCell (S := fun i => i = gx) (Mv.refl _ _) (p := ⟨gx, 2, none⟩) (fun _ => rfl) _
              have hX11 : EBox w11 gx (r1, T2, V, r3) := by
                have h := set_blk hX10 2 (.int .u64 (V : Nat))
                rw [hw11]
                exact h
              have h411 := keep_mv hm11 h410 (Ne.symm HNX.out.1)
              have hb11 : RowKit.Below w.heap.size w w11 := hb10'.trans (hm11.belowB hb10'.size (fun i hi e => by have := HWX.out; omega))
              clear Z0 Z1 Z2 Z3 X0 X1 X2 X3
              obtain ⟨Z0, Z1, Z2, Z3⟩ := hX10.cells
              simp only at Z0 Z1 Z2 Z3
              have HX11 := Lib.hid hX11; have H411 := Lib.hid h411; have HB11 := Lib.hid hb11; have HW11 := Lib.hid hw11; have HR := Lib.hid hR
              clear hX10 h410 hb10 hb10' hw11 hm11 hX11 h411 hb11 hR
              go_wp2_with fail
              rw [← HW11.out]
              clear Z0 Z1 Z2 Z3 F2
              have xc : ∀ i, w11.drew.cell? ⟨gx, i, none⟩ = (boxEn (r1, T2, V, r3))[i]? := fun i => cell_blk (w := w11.drew) HX11.out i
              have pc : ∀ i, w11.drew.cell? ⟨b4, i, none⟩ = (boxEn en0)[i]? := fun i => cell_blk (w := w11.drew) H411.out i
              have P0 := pc 0; have P1 := pc 1; have P2 := pc 2; have P3 := pc 3
              have X0 := xc 0; have X1 := xc 1; have X2 := xc 2; have X3 := xc 3
              simp only [boxEn, en0, List.getElem?_toArray, List.getElem?_cons_zero, List.getElem?_cons_succ] at P0 P1 P2 P3 X0 X1 X2 X3
              have P0' : w11.cell? ⟨b4, 0, none⟩ = some (.int .u32 ((0 : Nat) : Int)) := P0
              have P1' : w11.cell? ⟨b4, 1, none⟩ = some (.int .i64 0) := P1
              have P2' : w11.cell? ⟨b4, 2, none⟩ = some (.int .u64 ((0 : Nat) : Int)) := P2
              have P3' : w11.cell? ⟨b4, 3, none⟩ = some (.int .u64 ((0 : Nat) : Int)) := P3
              have X0' : w11.cell? ⟨gx, 0, none⟩ = some (.int .u32 (r1 : Nat)) := X0
              have X1' : w11.cell? ⟨gx, 1, none⟩ = some (.int .i64 T2) := X1
              have X2' : w11.cell? ⟨gx, 2, none⟩ = some (.int .u64 (V : Nat)) := X2
              have X3' : w11.cell? ⟨gx, 3, none⟩ = some (.int .u64 (r3 : Nat)) := X3
              have pf0 : w11.drew.frozen? ⟨b4, 0, none⟩ = false := free_blk (w := w11.drew) H411.out 0
              have pf1 : w11.drew.frozen? ⟨b4, 1, none⟩ = false := free_blk (w := w11.drew) H411.out 1
              have pf2 : w11.drew.frozen? ⟨b4, 2, none⟩ = false := free_blk (w := w11.drew) H411.out 2
              have pf3 : w11.drew.frozen? ⟨b4, 3, none⟩ = false := free_blk (w := w11.drew) H411.out 3
              have pf0' : w11.frozen? ⟨b4, 0, none⟩ = false := pf0
              have pf1' : w11.frozen? ⟨b4, 1, none⟩ = false := pf1
              have pf2' : w11.frozen? ⟨b4, 2, none⟩ = false := pf2
              have pf3' : w11.frozen? ⟨b4, 3, none⟩ = false := pf3
              have d1 := HNX.out.1; have d1' := Ne.symm d1
              have ma : Mv (fun i => i = b4) w11 (set4 w11 b4 0 (r1, T2, V, r3)) := set4_mv _ (Mv.refl _ _) (fun _ => rfl)
              have sa : EBox (set4 w11 b4 0 (r1, T2, V, r3)) b4 (r1, T2, V, r3) := set4_heap (r1, T2, V, r3) H411.out (by show 0 + 4 ≤ 4; decide)
              have hba2 := HB11.out.trans (ma.belowB HB11.out.size (fun i hi e => by have := H4B.out; omega))
              have ta : EBox (set4 w11 b4 0 (r1, T2, V, r3)) b4 (r1, T2, V, r3) ∧ RowKit.Below w.heap.size w (set4 w11 b4 0 (r1, T2, V, r3)) := ⟨sa, hba2⟩
              have tb : EBox (set4 w11 b4 0 (r1, T2, V, r3)).drew b4 (r1, T2, V, r3) ∧ RowKit.Below w.heap.size w (set4 w11 b4 0 (r1, T2, V, r3)).drew := ⟨drew_box sa, below_drewN hba2 1⟩
              simp only [set4, Nat.zero_add] at ta tb
              have TA := Lib.hid ta; have TB := Lib.hid tb
              clear xc pc ma sa hba2 ta tb
              go_region_law (fail)
              all_goals
                first
                  | (with_reducible refine withE (fun W6 => EBox W6 b4 (r1, T2, V, r3) ∧ RowKit.Below w.heap.size w W6) TA.out ?_)
                  | (with_reducible refine withE (fun W6 => EBox W6 b4 (r1, T2, V, r3) ∧ RowKit.Below w.heap.size w W6) TB.out ?_)
                rintro w12 ⟨h12, hb12⟩
                have H12 := Lib.hid h12; have HB12 := Lib.hid hb12
                clear P0 P1 P2 P3 P0' P1' P2' P3' X0 X1 X2 X3 X0' X1' X2' X3' pf0 pf1 pf2 pf3 pf0' pf1' pf2' pf3' h12 hb12 TA TB
                go_wp2
                refine post_en3 (by rfl) b4 (boxEn (r1, T2, V, r3)) (by rfl) H12.out (by rfl) (by rfl) ?_
                refine ⟨(r1, T2, V, r3), A6, y4.length - 8, c4 - 8, by rw [HR.out]; rfl, fun _ => ⟨by rw [HR.out], ?_, ?_, by omega, by have h1 := HC2.out; have h2 := HC3.out; have h3 := HC4.out; omega⟩, HB12.out⟩
                · have h1 := HYL2.out; have h2 := HYL3.out; have h3 := HYL4.out
                  rw [HR.out]; simp only; omega
                · have h := HR6.out
                  rw [HYX4.out, HYX3.out, HYX2.out, List.drop_drop, List.drop_drop, List.drop_drop] at h
                  rw [HR.out]; simp only
                  first | exact h | (rw [show k1 + k2 + k3 + 8 = k1 + (k2 + (k3 + 8)) by omega]; exact h) | (rw [show k1 + k2 + k3 + 8 = 8 + (k3 + (k2 + k1)) by omega]; exact h)
        · have hR := hR
          rw [if_pos he3] at hR
          have g3 : ((e3 : Int) != 0) = true := by rw [bne_iff_ne]; omega
          have HR := Lib.hid hR
          clear hR
          go_wp2_with (first
            | (refine wpList_store_agg (o := ⟨none, _, _, _, _, _⟩) ?_ 47 (.tmp 4) (.tmp 61) ?_ b4 0 [.int .u32 (p1 : Nat), .int .i64 p2, .int .u64 (p3 : Nat), .int .u64 (p4 : Nat)] ?_ ?_ 47 _ H4.out (by kernel_rfl) (by show 0 + 4 ≤ 4; decide) (by intro v hv; simp at hv; rcases hv with rfl | rfl | rfl | rfl <;> rfl) ?_; rfl; rfl; rfl; rfl; intro w9 hg9 hmv9 hs9)
            | fail)
          refine post_en3 (by rfl) b4 (boxEn (p1, p2, p3, p4)) (by rfl) hg9 (by rfl) (by rfl) ?_
          exact ⟨(p1, p2, p3, p4), none, 0, 0, by rw [HR.out]; rfl, fun h => absurd h (by rw [HR.out]; simp only; omega), HB2.out.trans (hmv9.belowB HB2.out.size (fun i hi e => by have := H4B.out; omega))⟩
      · rw [if_pos he2] at hR
        have g3 : ((e2 : Int) != 0) = true := by rw [bne_iff_ne]; omega
        have HR := Lib.hid hR
        clear hR
        go_wp2_with (first
          | (refine wpList_store_agg (o := ⟨none, _, _, _, _, _⟩) ?_ 47 (.tmp 4) (.tmp 48) ?_ b4 0 [.int .u32 (p1 : Nat), .int .i64 p2, .int .u64 (p3 : Nat), .int .u64 (p4 : Nat)] ?_ ?_ 47 _ H4.out (by kernel_rfl) (by show 0 + 4 ≤ 4; decide) (by intro v hv; simp at hv; rcases hv with rfl | rfl | rfl | rfl <;> rfl) ?_; rfl; rfl; rfl; rfl; intro w9 hg9 hmv9 hs9)
          | fail)
        refine post_en3 (by rfl) b4 (boxEn (p1, p2, p3, p4)) (by rfl) hg9 (by rfl) (by rfl) ?_
        exact ⟨(p1, p2, p3, p4), none, 0, 0, by rw [HR.out]; rfl, fun h => absurd h (by rw [HR.out]; simp only; omega), HB2.out.trans (hmv9.belowB HB2.out.size (fun i hi e => by have := H4B.out; omega))⟩
  · rw [if_pos he1] at hR
    have g3 : ((e1 : Int) != 0) = true := by rw [bne_iff_ne]; omega
    have HR := Lib.hid hR; have HU := Lib.hid hu
    clear hR hu
    go_enter Tryd.func52, Tryd.ntmps52
    go_wp2_with fail
    rw [← HB4.out, ← HB3.out, ← HW2.out]
    refine HU.out.mono ?_
    rintro e w3 ⟨rfl, rfl⟩
    go_wp2_with (first
      | (refine wpList_store_agg (o := ⟨none, _, _, _, _, _⟩) ?_ 47 (.tmp 4) (.tmp 22) ?_ b4 0 [.int .u32 (p1 : Nat), .int .i64 p2, .int .u64 (p3 : Nat), .int .u64 (p4 : Nat)] ?_ ?_ 47 _ H4.out (by kernel_rfl) (by show 0 + 4 ≤ 4; decide) (by intro v hv; simp at hv; rcases hv with rfl | rfl | rfl | rfl <;> rfl) ?_; rfl; rfl; rfl; rfl; intro w9 hg9 hmv9 hs9)
      | fail)
    refine post_en3 (by rfl) b4 (boxEn (p1, p2, p3, p4)) (by rfl) hg9 (by rfl) (by rfl) ?_
    exact ⟨(p1, p2, p3, p4), none, 0, 0, by rw [HR.out]; rfl, fun h => absurd h (by rw [HR.out]; simp only; omega), HB2.out.trans (hmv9.belowB HB2.out.size (fun i hi e => by have := H4B.out; omega))⟩
end
end Go.Proofs.YtgogpngobdafaaaDoor
