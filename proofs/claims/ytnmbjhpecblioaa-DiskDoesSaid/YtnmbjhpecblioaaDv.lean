/-
  The chapter's example comes out as the document says.
-/
import Derived.Test.YtnmbjhpecblioaaDc
import Derived.Test.YtnmbjhpecblioaaLit
namespace Go.Proofs.Ytnmbjhpecblioaa
set_option linter.unusedVariables false
set_option linter.unusedSimpArgs false
open Go.Maps Go.RowKit
abbrev fN : ByteArray := ⟨#[102]⟩
theorem lv1 : appD 100 [] fN [97, 98] = (0, [(fN, [97, 98], 0)]) := by decide +kernel
theorem lv2 : syncD [(fN, [97, 98], 0)] fN = (0, [(fN, [97, 98], 2)]) := by decide +kernel
theorem lv3 : appD 100 [(fN, [97, 98], 2)] fN [99, 100] = (0, [(fN, [97, 98, 99, 100], 2)]) := by decide +kernel
theorem lv4 : crashD 1 [(fN, [97, 98, 99, 100], 2)] = [(fN, [97, 98, 99], 3)] := by decide +kernel
section
variable {w w' : World} {db mb room base : Nat} {es : List Ent}
theorem MutOut.keep {r : Int × List Fl} {e : Ending} (h : MutOut w db mb room es r e w') (hB : base ≤ w.heap.size) (hF : ∀ k, foot db mb es k → base ≤ k) :
    e = .returned (.int .i64 r.1) ∧ ∃ es', DiskE w' db mb room es' ∧ es'.map val = r.2 ∧ Below base w w' ∧ ∀ k, foot db mb es' k → base ≤ k := by
  obtain ⟨h1, es', h2, h3, h4, h5⟩ := h
  refine ⟨h1, es', h2, h3, h4.belowB hB (fun k hk hf => by have := hF k hf; omega), fun k hk => ?_⟩
  rcases h5 k hk with h | h
  · exact hF k h
  · exact Nat.le_trans hB h
end
section
set_option maxHeartbeats 1600000
set_option maxRecDepth 100000
theorem dlive_any (w : World) : Calls Try.prog 5 #[] w fun e w' => e = .returned (.bool true) ∧ Below w.heap.size w w' := by
  go_enter Try.func5, Try.ntmps5
  go_wp2_with fail
  with_reducible refine (dnew_any 100 w (by decide)).mono ?_
  rintro e w1 ⟨rfl, D1, hb1⟩
  have F1 : ∀ k, foot (w.heap.size + 1) w.heap.size [] k → w.heap.size ≤ k := by
    rintro k (h | h | ⟨e, he, _⟩)
    · omega
    · omega
    · simp at he
  obtain ⟨db, hdb⟩ : ∃ db, db = w.heap.size + 1 := ⟨_, rfl⟩
  rw [← hdb] at D1 F1 ⊢
  rw [show Int.toNat 100 = 100 from rfl] at D1
  have hcv := lit_bytes w1 #[.int .u8 97, .int .u8 98] 2 2
  clear hdb
  go_wp2_with fail
  clear hcv
  have hb2 := (Below.refl _ w1).alloc (Nat.le_refl _) (.cells #[.int .u8 97, .int .u8 98] 5 (2, 3))
  have hA : Calls Try.prog 8 #[.pointer (some ⟨db, 0, none⟩), .string ⟨#[102]⟩, .slice (some ⟨w1.heap.size, 0, none⟩) 2 2] (w1.alloc (.cells #[.int .u8 97, .int .u8 98] 5 (2, 3))) (MutOut (w1.alloc (.cells #[.int .u8 97, .int .u8 98] 5 (2, 3))) db _ 100 [] (appD 100 ([].map val) fN [97, 98])) := append_any (D1.below hb2) fN (by decide) _ 2 [97, 98] (rd_mark w1 ([97, 98].map Bv) _ _) (by decide)
  with_reducible refine hA.mono ?_
  clear hA
  rintro e w2 hM
  have hs1 := hb1.size
  obtain ⟨rfl, es2, D2, L2, hb3, F2⟩ := hM.keep (base := w.heap.size) (Nat.le_trans hs1 hb2.size) F1
  rw [List.map_nil, lv1] at L2 ⊢
  have hb4 := (hb1.trans (hb2.mono hs1)).trans hb3
  clear hb1 hb2 hb3 hs1 F1 D1 hM
  go_wp2_with fail
  with_reducible refine (sync_any D2 fN (by decide)).mono ?_
  rintro e w3 hM
  have hs2 := hb4.size
  rw [L2] at hM
  obtain ⟨rfl, es3, D3, L3, hb3, F3⟩ := hM.keep (base := w.heap.size) hs2 F2
  rw [lv2] at L3 ⊢
  have hb5 := hb4.trans hb3
  have hs3 := hb5.size
  clear hb4 hb3 F2 D2 hM L2 hs2
  have hcv := lit_bytes w3 #[.int .u8 99, .int .u8 100] 2 2
  go_wp2_with fail
  clear hcv
  have hb2 := (Below.refl _ w3).alloc (Nat.le_refl _) (.cells #[.int .u8 99, .int .u8 100] 5 (2, 3))
  have hA : Calls Try.prog 8 #[.pointer (some ⟨db, 0, none⟩), .string ⟨#[102]⟩, .slice (some ⟨w3.heap.size, 0, none⟩) 2 2] (w3.alloc (.cells #[.int .u8 99, .int .u8 100] 5 (2, 3))) (MutOut (w3.alloc (.cells #[.int .u8 99, .int .u8 100] 5 (2, 3))) db _ 100 es3 (appD 100 (es3.map val) fN [99, 100])) := append_any (D3.below hb2) fN (by decide) _ 2 [99, 100] (rd_mark w3 ([99, 100].map Bv) _ _) (by decide)
  with_reducible refine hA.mono ?_
  clear hA
  rintro e w4 hM
  rw [L3] at hM
  obtain ⟨rfl, es4, D4, L4, hb3, F4⟩ := hM.keep (base := w.heap.size) (Nat.le_trans hs3 hb2.size) F3
  rw [lv3] at L4 ⊢
  have hb6 := (hb5.trans (hb2.mono hs3)).trans hb3
  have hs4 := hb6.size
  clear hb5 hb2 hb3 F3 D3 hM L3 hs3
  go_wp2_with fail
  with_reducible refine (crash_any D4 1).mono ?_
  rintro e w5 ⟨rfl, es5, D5, L5, hmv, hft⟩
  rw [L4, lv4] at L5
  have hb7 := hb6.trans (hmv.belowB hs4 (fun k hk hf => by have := F4 k hf; omega))
  have hs5 := hb7.size
  clear hb6 hmv hft F4 D4 L4 hs4
  obtain ⟨x, rfl, hx⟩ : ∃ x, es5 = [x] ∧ val x = (fN, [97, 98, 99], 3) := by
    have h1 := congrArg List.length L5
    rw [List.length_map] at h1
    obtain ⟨x, rfl⟩ := List.length_eq_one_iff.1 h1
    exact ⟨x, rfl, by rw [List.map_singleton] at L5; injection L5⟩
  have hx1 : x.nm = fN := congrArg (·.1) hx
  have hx2 : x.bs = [97, 98, 99] := congrArg (·.2.1) hx
  have hlk : lookE [x] fN = some x := by unfold lookE; simp [hx1]
  have hln : lenL ([x].map val) = 3 := by rw [List.map_singleton, hx]; rfl
  have HR := Lib.hid (dread_any D5 fN (by decide))
  rw [hlk] at HR
  unfold ReadOut at HR
  simp only at HR
  rw [hx2] at HR
  have HS := Lib.hid (fun (W' : World) (hb : Below w5.heap.size w5 W') => dsize_any (D5.below hb))
  rw [hln] at HS
  clear D5 hx hx1 hx2 hlk hln L5
  go_wp2_with fail
  with_reducible refine HR.out.mono ?_
  rintro e w6 ⟨A', c', rfl, ho, hb8⟩
  obtain ⟨A2, c2, e2, rd, hc⟩ := own_bytes ho
  injection e2 with e2 _ e3; subst e2; subst e3
  obtain ⟨b, off, rfl, p0⟩ := rd 0 _ rfl
  have p1 : w6.cell? ⟨b, off + 1, none⟩ = some (.int .u8 98) := by
    obtain ⟨b', o', e', p1⟩ := rd 1 _ rfl
    injection e' with e'; injection e' with e1 e2; subst e1 e2; exact p1
  have p2 : w6.cell? ⟨b, off + 2, none⟩ = some (.int .u8 99) := by
    obtain ⟨b', o', e', p1⟩ := rd 2 _ rfl
    injection e' with e'; injection e' with e1 e2; subst e1 e2; exact p1
  have hcs := run_convert_bytes_arg (P := Try.prog) w6 33 5 Try.underlying33 Try.underlying5 b off 3 c' [97, 98, 99] rfl (fun i hi => by
    have : i = 0 ∨ i = 1 ∨ i = 2 := by omega
    rcases this with rfl | rfl | rfl
    · exact p0
    · exact p1
    · exact p2) 9 Try.underlying9
  have hst : (strOfNums [97, 98, 99]).toList = [97, 98, 99] := by rw [Lib.toList_data]; rfl
  have HS2 := Lib.hid (HS.out w6 hb8)
  have hb9 := hb7.trans (hb8.mono hs5)
  have hs6 := hb9.size
  clear p0 p1 p2 rd ho hc
  go_wp2_with fail
  refine HS2.out.mono ?_
  rintro e w7 ⟨rfl, hb10⟩
  go_wp2
  go_ret
  exact ⟨rfl, hb9.trans (hb10.mono hs6)⟩
end
end Go.Proofs.Ytnmbjhpecblioaa
