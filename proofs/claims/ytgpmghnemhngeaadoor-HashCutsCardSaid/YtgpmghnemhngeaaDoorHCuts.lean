/-
  HashCuts (P3.5): however a text is cut into parts, its sums are the same. The condition is the table's: it holds what its initialiser lays, which the card ties to the program's text.
-/
import Derived.Deep.RegionHeld3
import Derived.Laws.MakeOwn
import Derived.Test.YtgpmghnemhngeaaDoorC04
import Derived.Test.YtgpmghnemhngeaaDoorC01
namespace Go.Proofs.YtgpmghnemhngeaaDoor
set_option linter.unusedVariables false
set_option linter.unusedSimpArgs false
open Go.ChangeShapes Go.WideShapes Go.ChangeAt Go.RowKit
theorem row_new {w : World} {o : Obj} : (w.alloc o).heap[w.heap.size]? = some o := heap_alloc_new w o
theorem row_new' {w : World} {o : Obj} {R : Nat} (h : R = w.heap.size) : (w.alloc o).heap[R]? = some o := by rw [h]; exact heap_alloc_new w o
theorem row_old {w : World} {o o' : Obj} {R : Nat} (h : w.heap[R]? = some o) : (w.alloc o').heap[R]? = some o := (heap_alloc_old _ _ (lt_of_block h)).trans h
theorem row_kept {w w' : World} {o : Obj} {R : Nat} (hb : Below w.heap.size w w') (h : w.heap[R]? = some o) : w'.heap[R]? = some o := (hb.block R (lt_of_block h)).trans h
theorem parts_far {W : World} {R : Nat} {P : List (Option Addr × Nat × List UInt8)} {cells : Array Value} (hc : cells = (P.map partV).toArray) (hr : W.heap[R]? = some (.cells cells 28 (0, 0)))
    (h : ∀ p ∈ P, Rd W p.1 (p.2.2.map Bv) ∧ p.2.2.length ≤ p.2.1 ∧ p.2.1 ≤ 9223372036854775807) : PartsRd W (some ⟨R, 0, none⟩) P := by
  refine ⟨fun k v hv => ⟨R, 0, rfl, ?_⟩, h⟩
  rw [cell_blk hr, Nat.zero_add, hc]; simpa using hv
theorem below_ofDrew {w w' : World} {n : Nat} (h : w' = w.drewN n) : Below w.heap.size w w' := by rw [h]; exact ⟨rfl, rfl, rfl, Nat.le_refl _, fun _ _ => rfl⟩
theorem undrewC {B : Nat} {w w' : World} (h : Below B w w') : Below B w w' := h
theorem join_oneC {W : World} {R : Nat} (A : Option Addr) (ca n : Nat) (xs : List UInt8) (hn : xs.length = n) (hr : W.heap[R]? = some (.cells #[.slice A n ca] 28 (0, 0))) (hx : Rd W A (xs.map Bv)) (hl : n ≤ 140737488351232) :
    Calls Tryd.prog 13 #[.slice (some ⟨R, 0, none⟩) 1 1] W fun e w' => ∃ C c, e = .returned (.slice C n c) ∧ Rd w' C (xs.map Bv) ∧ Below W.heap.size W w' := by
  subst hn
  have hj : joined [(A, ca, xs)] = xs := by simp [joined]
  have hS : Rd W (some ⟨R, 0, none⟩) ([(A, ca, xs)].map partV) := by
    intro k v hv
    refine ⟨R, 0, rfl, ?_⟩
    rw [cell_blk hr, Nat.zero_add]
    simpa [partV] using hv
  refine (join_any W (some ⟨R, 0, none⟩) 1 [(A, ca, xs)] hS (fun p hp => by simp only [List.mem_cons, List.not_mem_nil, or_false] at hp; subst hp; exact hx) (by rw [hj]; exact hl) (by simp)).mono ?_
  rintro e w4 ⟨v4, rfl, own4, hb4⟩
  rw [hj] at own4
  obtain ⟨A4, c4, rfl, rd4, _⟩ := own_rd own4
  exact ⟨A4, c4, rfl, rd4, hb4⟩
def sumC (s : List UInt8) : Value := .agg (s.map Bv).toArray
/-- What is at hand wherever the memory above w0 has gone: the key, the text in parts and whole. -/
structure CutAt (w0 W : World) (A B B1 B2 C T : Option Addr) (K xs x x' y t : List UInt8) : Prop where
  bel : Below w0.heap.size w0 W
  k : Rd W A (K.map Bv)
  a : Rd W B (xs.map Bv)
  a1 : Rd W B1 (x.map Bv)
  a2 : Rd W B2 (x'.map Bv)
  b : Rd W C (y.map Bv)
  t : Rd W T (t.map Bv)
  adds : AddsMet W
section
variable {w0 W W' : World} {A B B1 B2 C T : Option Addr} {K xs x x' y t : List UInt8}
theorem CutAt.below (h : CutAt w0 W A B B1 B2 C T K xs x x' y t) (hb : Below W.heap.size W W') : CutAt w0 W' A B B1 B2 C T K xs x x' y t :=
  ⟨h.bel.trans (hb.mono h.bel.size), h.k.below hb, h.a.below hb, h.a1.below hb, h.a2.below hb, h.b.below hb, h.t.below hb, h.adds.below hb⟩
theorem CutAt.alloc (h : CutAt w0 W A B B1 B2 C T K xs x x' y t) (o : Obj) : CutAt w0 (W.alloc o) A B B1 B2 C T K xs x x' y t := h.below ((Below.refl _ W).alloc (Nat.le_refl _) o)
theorem CutAt.drewN (h : CutAt w0 W A B B1 B2 C T K xs x x' y t) (n : Nat) : CutAt w0 (W.drewN n) A B B1 B2 C T K xs x x' y t := h.below ⟨rfl, rfl, rfl, Nat.le_refl _, fun _ _ => rfl⟩
theorem CutAt.drew (h : CutAt w0 W A B B1 B2 C T K xs x x' y t) : CutAt w0 W.drew A B B1 B2 C T K xs x x' y t := h.below ⟨rfl, rfl, rfl, Nat.le_refl _, fun _ _ => rfl⟩
end
section
variable {w0 W : World} {A B B' C T : Option Addr} {K x x' y : List UInt8} {ca cb cb' cc ct nk n n' lb lt R : Nat}
theorem sum_far (P : List (Option Addr × Nat × List UInt8)) (cells : Array Value) (m : Nat) (s : List UInt8) (hm : P.length = m) (hc : cells = (P.map partV).toArray) (hs : sha (joined P) = s) (hr : W.heap[R]? = some (.cells cells 28 (0, 0)))
    (h : ∀ p ∈ P, Rd W p.1 (p.2.2.map Bv) ∧ p.2.2.length ≤ p.2.1 ∧ p.2.1 ≤ 9223372036854775807) (hl : (joined P).length ≤ 90000000) (hmm : m ≤ 1000) (ht : AddsMet W) :
    Calls Tryd.prog 10 #[.slice (some ⟨R, 0, none⟩) m m] W fun e w' => e = .returned (sumC s) ∧ Below W.heap.size W w' := by
  subst hs
  exact hashSum_any W (some ⟨R, 0, none⟩) m m P ht hm (parts_far hc hr h) (by omega) (by omega)
theorem macp_far (P : List (Option Addr × Nat × List UInt8)) (cells : Array Value) (m : Nat) (s : List UInt8) (hm : P.length = m) (hc : cells = (P.map partV).toArray) (hs : macS K (joined P) = s) (hr : W.heap[R]? = some (.cells cells 28 (0, 0)))
    (h : ∀ p ∈ P, Rd W p.1 (p.2.2.map Bv) ∧ p.2.2.length ≤ p.2.1 ∧ p.2.1 ≤ 9223372036854775807) (hl : (joined P).length ≤ 90000000) (hmm : m ≤ 1000) (ht : AddsMet W)
    (hk : Rd W A (K.map Bv)) (hn : K.length = nk) (hkc : nk ≤ ca) (hca : ca ≤ 9223372036854775807) (hk2 : nk ≤ 100000000) :
    Calls Tryd.prog 19 #[.slice A nk ca, .slice (some ⟨R, 0, none⟩) m m] W fun e w' => e = .returned (sumC s) ∧ Below W.heap.size W w' := by
  subst hs
  exact mac_any W A (some ⟨R, 0, none⟩) ca nk m m K P hn hk hkc hca hk2 ht hm (parts_far hc hr h) hl (by omega)
end
section
set_option maxHeartbeats 6400000
set_option maxRecDepth 100000
theorem cuts_walk (A : Option Addr) (ca : Nat) (K : List UInt8) (B : Option Addr) (cb : Nat) (xs : List UInt8) (C : Option Addr) (cc : Nat) (ys : List UInt8) (zs : Int) (w : World) (ht : AddsMet w) (hx : Rd w A (K.map Bv)) (hla : K.length ≤ ca) (hca : ca ≤ 9223372036854775807)
    (hy : Rd w B (xs.map Bv)) (hlb : xs.length ≤ cb) (hcb : cb ≤ 9223372036854775807) (hv : Rd w C (ys.map Bv)) (hlc : ys.length ≤ cc) (hcc : cc ≤ 9223372036854775807) (hz1 : -9223372036854775808 ≤ zs) (hz2 : zs ≤ 9223372036854775807) :
    Calls Tryd.prog 5 #[.slice A K.length ca, .slice B xs.length cb, .slice C ys.length cc, .int .i64 zs] w fun e w' => e = .returned (.bool true) ∧ Below w.heap.size w w' := by
  have HT := Lib.hid ht; clear ht
  obtain ⟨nk, hn⟩ : ∃ n, n = K.length := ⟨_, rfl⟩
  obtain ⟨la, hm⟩ : ∃ m, m = xs.length := ⟨_, rfl⟩
  obtain ⟨lb, ho⟩ : ∃ m, m = ys.length := ⟨_, rfl⟩
  rw [← hn] at hla ⊢
  rw [← hm] at hlb ⊢
  rw [← ho] at hlc ⊢
  have HN := Lib.hid hn; have HM := Lib.hid hm; have HO := Lib.hid ho
  clear hn hm ho
  go_enter Tryd.func5, Tryd.ntmps5
  go_wp2_with fail
  refine (live_any w HT.out).mono ?_
  rintro e w1 ⟨rfl, hb1⟩
  have hx1 := hx.below hb1
  have hy1 := hy.below hb1
  have hv1 := hv.below hb1
  have hp1 := parts_new w1 [(A, ca, K), (B, cb, xs), (C, cc, ys)] fun p hp => by
    simp only [List.mem_cons, List.not_mem_nil, or_false] at hp
    rcases hp with rfl | rfl | rfl
    · exact ⟨hx1, by rw [← HN.out]; exact hla, hca⟩
    · exact ⟨hy1, by rw [← HM.out]; exact hlb, hcb⟩
    · exact ⟨hv1, by rw [← HO.out]; exact hlc, hcc⟩
  have hr1 := hp1.row
  simp only [List.map_cons, List.map_nil, partV] at hr1
  rw [← HN.out, ← HM.out, ← HO.out] at hr1
  have hb2 := hb1.alloc hb1.size (.cells #[.slice A nk ca, .slice B la cb, .slice C lb cc] 28)
  have hx2 := hx1.alloc (.cells #[.slice A nk ca, .slice B la cb, .slice C lb cc] 28)
  have hy2 := hy1.alloc (.cells #[.slice A nk ca, .slice B la cb, .slice C lb cc] 28)
  have hv2 := hv1.alloc (.cells #[.slice A nk ca, .slice B la cb, .slice C lb cc] 28)
  have ht2 := HT.out.below hb2
  have hsh := short_any (w1.alloc (.cells #[.slice A nk ca, .slice B la cb, .slice C lb cc] 28)) (some ⟨w1.heap.size, 0, none⟩) 3 3 [(A, ca, K), (B, cb, xs), (C, cc, ys)] rfl (by
    simp only [List.map_cons, List.map_nil, partV]
    rw [← HN.out, ← HM.out, ← HO.out]
    exact hr1) (by decide)
  clear hx hy hv hx1 hy1 hv1 hp1 hr1
  go_wp2_with fail
  refine hsh.mono ?_
  rintro e w2 ⟨rfl, rfl⟩
  clear HT hsh
  generalize w1.alloc (.cells #[.slice A nk ca, .slice B la cb, .slice C lb cc] 28) = w2 at *
  have HT2 := Lib.hid ht2; clear ht2
  cases hs : shortB [(A, ca, K), (B, cb, xs), (C, cc, ys)] with
  | false =>
    clear hs
    go_wp2_with fail
    refine (live_any w2 HT2.out).mono ?_
    rintro e w3 ⟨rfl, hb3⟩
    have hb3' := hb2.trans (hb3.mono hb2.size)
    go_wp2
    go_ret
    exact ⟨rfl, hb3'⟩
  | true =>
    have hsp := (shortB_spec hs).1
    have hk2000 : nk ≤ 2000 := by have := hsp (A, ca, K) (by simp); simpa [HN.out] using this
    have ha2000 : la ≤ 2000 := by have := hsp (B, cb, xs) (by simp); simpa [HM.out] using this
    have hb2000 : lb ≤ 2000 := by have := hsp (C, cc, ys) (by simp); simpa [HO.out] using this
    clear hs hsp
    obtain ⟨n, hn⟩ : ∃ n : Nat, (n : Int) = min (max zs 0) (la : Int) := ⟨(min (max zs 0) (la : Int)).toNat, by omega⟩
    have hnl : n ≤ la := by omega
    have hmin : min (max zs 0) (la : Int) = (n : Int) := hn.symm
    have hj := join_two_here w2 B C cb cc la lb xs ys _ rfl HM.out.symm HO.out.symm hy2 hv2 (by omega)
    have HJ := Lib.hid hj
    have HX2 := Lib.hid hx2; have HY2 := Lib.hid hy2; have HV2 := Lib.hid hv2; have HB2 := Lib.hid hb2
    clear hj hx2 hy2 hv2 hn
    go_wp2_with (first
      | (go_at_call 13; refine HJ.out.mono ?_; rintro e w4 ⟨T, tc, rfl, rdT, htc, htm, hb4⟩)
      | fail)
    unfold maxLen at htm
    have hb4' := HB2.out.trans (hb4.mono HB2.out.size)
    have hx4 := HX2.out.below hb4
    have hy4 := HY2.out.below hb4
    have hv4 := HV2.out.below hb4
    have ht4 := HT2.out.below hb4
    obtain ⟨B1, hB1, hB1r⟩ := run_slice_all (P := Tryd.prog) 28 5 B la cb 0 n none (some (.int .i64 (n : Nat))) Tryd.underlying28 (by kernel_rfl) (.inr ⟨rfl, rfl⟩) (.inl rfl) (Nat.zero_le _) (by omega)
    obtain ⟨B2, hB2, hB2r⟩ := run_slice_all (P := Tryd.prog) 28 5 B la cb n la (some (.int .i64 (n : Nat))) none Tryd.underlying28 (by kernel_rfl) (.inl rfl) (.inr ⟨rfl, rfl⟩) hnl hlb
    simp only [Nat.sub_zero] at hB1
    have hlen := HM.out
    obtain ⟨x, hxd⟩ : ∃ x, x = xs.take n := ⟨_, rfl⟩
    obtain ⟨x', hxd'⟩ : ∃ x', x' = xs.drop n := ⟨_, rfl⟩
    have hxx : x ++ x' = xs := by rw [hxd, hxd', List.take_append_drop]
    have hxn : x.length = n := by rw [hxd, List.length_take]; omega
    obtain ⟨n2, hn2⟩ : ∃ n2, n2 = la - n := ⟨_, rfl⟩
    obtain ⟨cb2, hcb2⟩ : ∃ c, c = cb - n := ⟨_, rfl⟩
    rw [← hn2, ← hcb2] at hB2
    have hxn' : x'.length = n2 := by rw [hxd', List.length_drop, hn2, hlen]
    have hct : CutAt w4 w4 A B B1 B2 C T K xs x x' ys (xs ++ ys) := by
      refine ⟨Below.refl _ _, hx4, hy4, ?_, ?_, hv4, rdT, ht4⟩
      · have h := hB1r w4 (xs.map Bv) (by rw [List.length_map]; omega) hy4
        rw [List.drop_zero] at h
        rw [hxd]; exact h.bytes_take n
      · have h := hB2r w4 (xs.map Bv) (by rw [List.length_map]; omega) hy4
        rw [hxd', List.map_drop]; exact h
    obtain ⟨tl, htl⟩ : ∃ tl, tl = la + lb := ⟨_, rfl⟩
    rw [← htl] at htc ⊢
    obtain ⟨s1, hs1⟩ : ∃ s1, s1 = sha (xs ++ ys) := ⟨_, rfl⟩
    obtain ⟨s2, hs2⟩ : ∃ s2, s2 = macS K (xs ++ ys) := ⟨_, rfl⟩
    have htn : (xs ++ ys).length = tl := by rw [List.length_append, ← HM.out, ← HO.out, htl]
    have hj4 : joined [(B1, cb, x), (B2, cb2, x'), ((none : Option Addr), 0, []), (C, cc, ys)] = xs ++ ys := by simp [joined, ← hxx]
    have hj3 : joined [(B1, cb, x), (B2, cb2, x'), (C, cc, ys)] = xs ++ ys := by simp [joined, ← hxx]
    have hj1 : joined [(T, tc, xs ++ ys)] = xs ++ ys := by simp [joined]
    have hl90 : (xs ++ ys).length ≤ 90000000 := by rw [htn]; omega
    have p1 : ∀ W, CutAt w4 W A B B1 B2 C T K xs x x' ys (xs ++ ys) → ∀ p ∈ [(T, tc, xs ++ ys)], Rd W p.1 (p.2.2.map Bv) ∧ p.2.2.length ≤ p.2.1 ∧ p.2.1 ≤ 9223372036854775807 := fun W h p hp => by
      simp only [List.mem_cons, List.not_mem_nil, or_false] at hp
      subst hp
      exact ⟨h.t, by rw [htn]; exact htc, by omega⟩
    have p4 : ∀ W, CutAt w4 W A B B1 B2 C T K xs x x' ys (xs ++ ys) → ∀ p ∈ [(B1, cb, x), (B2, cb2, x'), ((none : Option Addr), 0, []), (C, cc, ys)], Rd W p.1 (p.2.2.map Bv) ∧ p.2.2.length ≤ p.2.1 ∧ p.2.1 ≤ 9223372036854775807 := fun W h p hp => by
      simp only [List.mem_cons, List.not_mem_nil, or_false] at hp
      rcases hp with rfl | rfl | rfl | rfl
      · exact ⟨h.a1, by simp only; omega, hcb⟩
      · exact ⟨h.a2, by simp only; omega, by simp only; omega⟩
      · exact ⟨Rd.nil _ _, by simp, by simp⟩
      · exact ⟨h.b, by have := HO.out; simp only; omega, hcc⟩
    have hs1c := fun (W : World) (R : Nat) (h : CutAt w4 W A B B1 B2 C T K xs x x' ys (xs ++ ys)) (hr : W.heap[R]? = some (.cells #[.slice T tl tc] 28 (0, 0))) => sum_far (W := W) (R := R) [(T, tc, xs ++ ys)] _ 1 s1 rfl (by simp [partV, ← htn]) (by rw [hj1, hs1]) hr (p1 W h) (by rw [hj1]; exact hl90) (by decide) h.adds
    have hs4c := fun (W : World) (R : Nat) (h : CutAt w4 W A B B1 B2 C T K xs x x' ys (xs ++ ys)) (hr : W.heap[R]? = some (.cells #[.slice B1 n cb, .slice B2 n2 cb2, .slice none 0 0, .slice C lb cc] 28 (0, 0))) => sum_far (W := W) (R := R) [(B1, cb, x), (B2, cb2, x'), ((none : Option Addr), 0, []), (C, cc, ys)] _ 4 s1 rfl (by simp [partV, hxn, hxn', ← HO.out]) (by rw [hj4, hs1]) hr (p4 W h) (by rw [hj4]; exact hl90) (by decide) h.adds
    have hm1c := fun (W : World) (R : Nat) (h : CutAt w4 W A B B1 B2 C T K xs x x' ys (xs ++ ys)) (hr : W.heap[R]? = some (.cells #[.slice T tl tc] 28 (0, 0))) => macp_far (W := W) (R := R) (A := A) (K := K) (ca := ca) (nk := nk) [(T, tc, xs ++ ys)] _ 1 s2 rfl (by simp [partV, ← htn]) (by rw [hj1, hs2]) hr (p1 W h) (by rw [hj1]; exact hl90) (by decide) h.adds h.k HN.out.symm hla hca (by omega)
    have hm3c := fun (W : World) (R : Nat) (h : CutAt w4 W A B B1 B2 C T K xs x x' ys (xs ++ ys)) (hr : W.heap[R]? = some (.cells #[.slice B1 n cb, .slice B2 n2 cb2, .slice C lb cc] 28 (0, 0))) => macp_far (W := W) (R := R) (A := A) (K := K) (ca := ca) (nk := nk) [(B1, cb, x), (B2, cb2, x'), (C, cc, ys)] _ 3 s2 rfl (by simp [partV, hxn, hxn', ← HO.out]) (by rw [hj3, hs2]) hr (fun p hp => p4 W h p (by simp only [List.mem_cons, List.not_mem_nil, or_false] at hp ⊢; rcases hp with rfl | rfl | rfl <;> simp)) (by rw [hj3]; exact hl90) (by decide) h.adds h.k HN.out.symm hla hca (by omega)
    have hec := fun (W : World) (h : CutAt w4 W A B B1 B2 C T K xs x x' ys (xs ++ ys)) => heq_any B C cb cc la lb xs ys W HM.out.symm HO.out.symm h.a h.b (by omega) (by omega)
    have hrc := fun (W : World) (h : CutAt w4 W A B B1 B2 C T K xs x x' ys (xs ++ ys)) => equal_at B C cb cc la lb xs ys W HM.out.symm HO.out.symm h.a h.b (by have := HM.out; omega) (by have := HO.out; omega)
    have hjc := fun (W : World) (R : Nat) (h : CutAt w4 W A B B1 B2 C T K xs x x' ys (xs ++ ys)) (hr : W.heap[R]? = some (.cells #[.slice B la cb] 28 (0, 0))) => join_oneC (W := W) (R := R) B cb la xs HM.out.symm hr h.a (by omega)
    have hfc := fun (W : World) (D : Option Addr) (dc : Nat) (h : CutAt w4 W A B B1 B2 C T K xs x x' ys (xs ++ ys)) (hd : Rd W D (xs.map Bv)) => heq_any B D cb dc la la xs xs W HM.out.symm HM.out.symm h.a hd (by omega) (by omega)
    simp only [decide_true] at hfc
    generalize decide (xs = ys) = bq at hec hrc
    have gbq : (bq == bq) = true := by simp
    have l1 : s1.length = 32 := by rw [hs1]; exact sha_length _
    have l2 : s2.length = 32 := by rw [hs2]; exact macS_length' _ _
    obtain ⟨c1, hc1⟩ : ∃ c1, c1 = (s1.map Bv).toArray := ⟨_, rfl⟩
    obtain ⟨c2, hc2⟩ : ∃ c2, c2 = (s2.map Bv).toArray := ⟨_, rfl⟩
    have hq1 : sumC s1 = .agg c1 := by rw [hc1]; rfl
    have hq2 : sumC s2 = .agg c2 := by rw [hc2]; rfl
    simp only [hq1] at hs1c hs4c
    simp only [hq2] at hm1c hm3c
    have heq1 : ∀ u : World, (Op.equalIn 10000 25 (.agg c1) (.agg c1)).run Tryd.prog u = .ok true u := fun u => by
      rw [hc1, eq_bytes u 25 32 s1 s1 Tryd.underlying25 l1 l1]; simp
    have heq2 : ∀ u : World, (Op.equalIn 10000 25 (.agg c2) (.agg c2)).run Tryd.prog u = .ok true u := fun u => by
      rw [hc2, eq_bytes u 25 32 s2 s2 Tryd.underlying25 l2 l2]; simp
    clear hc1 hc2 hq1 hq2
    have hgd : Tryd.prog.eqGuardType Tryd.prog.depth 25 = false := by kernel_rfl
    have CT := Lib.hid hct
    have HS1 := Lib.hid hs1c; have HS4 := Lib.hid hs4c; have HM1 := Lib.hid hm1c; have HM3 := Lib.hid hm3c
    have HE := Lib.hid hec; have HR := Lib.hid hrc; have HJC := Lib.hid hjc; have HF := Lib.hid hfc
    have HB4 := Lib.hid hb4'
    clear hct hs1c hs4c hm1c hm3c hec hrc hjc hfc hb4 hb4' hx4 hy4 hv4 ht4 rdT hB1r hB2r hlen hxd hxd' hxx hxn hn2 hcb2 hxn' htl hs1 hs2 htn hj4 hj3 hj1 hl90 p1 p4 l1 l2 HJ HX2 HY2 HV2 HB2 hmin
    go_region_held3 (fun _ => True) (exact trivial) (first
      | (go_at_call 10
         (with_reducible refine (HS1.out _ _ ?_ ?_).mono ?_)
         focus (first | exact CT.out | exact CT.out.drew | exact CT.out.alloc _ | exact (CT.out.alloc _).drew | exact (CT.out.alloc _).alloc _ | exact ((CT.out.alloc _).alloc _).drew | exact CT.out.drewN _ | exact (CT.out.drewN _).alloc _)
         focus (first | assumption | exact row_new | (refine row_new' ?_; simp) | exact row_old row_new | (refine row_old (row_new' ?_); simp) | (refine row_old ?_; assumption))
         rintro e w9 ⟨rfl, hb9⟩
         have hb9 := undrewC hb9
         (try (have q4 := row_kept (o := .cells #[.slice B1 n cb, .slice B2 n2 cb2, .slice none 0 0, .slice C lb cc] 28 (0, 0)) hb9 row_new)); (try simp only [World.size_alloc] at q4)
         (try (have q4 := row_kept (o := .cells #[.slice B1 n cb, .slice B2 n2 cb2, .slice none 0 0, .slice C lb cc] 28 (0, 0)) hb9 (row_old row_new))); (try simp only [World.size_alloc] at q4)
         have CT := Lib.hid (show CutAt w4 w9 A B B1 B2 C T K xs x x' ys (xs ++ ys) from by refine CutAt.below ?_ hb9; (first | exact CT.out | exact CT.out.drew | exact CT.out.alloc _ | exact (CT.out.alloc _).drew | exact (CT.out.alloc _).alloc _ | exact ((CT.out.alloc _).alloc _).drew | exact CT.out.drewN _ | exact (CT.out.drewN _).alloc _))
         clear hb9)
      | (go_at_call 10
         (with_reducible refine (HS4.out _ _ ?_ ?_).mono ?_)
         focus (first | exact CT.out | exact CT.out.drew | exact CT.out.alloc _ | exact (CT.out.alloc _).drew | exact (CT.out.alloc _).alloc _ | exact ((CT.out.alloc _).alloc _).drew | exact CT.out.drewN _ | exact (CT.out.drewN _).alloc _)
         focus (first | assumption | exact row_new | (refine row_new' ?_; simp) | exact row_old row_new | (refine row_old (row_new' ?_); simp) | (refine row_old ?_; assumption))
         rintro e w9 ⟨rfl, hb9⟩
         have hb9 := undrewC hb9
         (try (have q1 := row_kept (o := .cells #[.slice T tl tc] 28 (0, 0)) hb9 row_new)); (try simp only [World.size_alloc] at q1)
         (try (have q1 := row_kept (o := .cells #[.slice T tl tc] 28 (0, 0)) hb9 (row_old row_new))); (try simp only [World.size_alloc] at q1)
         have CT := Lib.hid (show CutAt w4 w9 A B B1 B2 C T K xs x x' ys (xs ++ ys) from by refine CutAt.below ?_ hb9; (first | exact CT.out | exact CT.out.drew | exact CT.out.alloc _ | exact (CT.out.alloc _).drew | exact (CT.out.alloc _).alloc _ | exact ((CT.out.alloc _).alloc _).drew | exact CT.out.drewN _ | exact (CT.out.drewN _).alloc _))
         clear hb9)
      | (go_at_call 19
         (with_reducible refine (HM1.out _ _ ?_ ?_).mono ?_)
         focus (first | exact CT.out | exact CT.out.drew | exact CT.out.alloc _ | exact (CT.out.alloc _).drew | exact (CT.out.alloc _).alloc _ | exact ((CT.out.alloc _).alloc _).drew | exact CT.out.drewN _ | exact (CT.out.drewN _).alloc _)
         focus (first | assumption | exact row_new | (refine row_new' ?_; simp) | exact row_old row_new | (refine row_old (row_new' ?_); simp) | (refine row_old ?_; assumption))
         rintro e w9 ⟨rfl, hb9⟩
         have hb9 := undrewC hb9
         (try (have q3 := row_kept (o := .cells #[.slice B1 n cb, .slice B2 n2 cb2, .slice C lb cc] 28 (0, 0)) hb9 row_new)); (try simp only [World.size_alloc] at q3)
         (try (have q3 := row_kept (o := .cells #[.slice B1 n cb, .slice B2 n2 cb2, .slice C lb cc] 28 (0, 0)) hb9 (row_old row_new))); (try simp only [World.size_alloc] at q3)
         have CT := Lib.hid (show CutAt w4 w9 A B B1 B2 C T K xs x x' ys (xs ++ ys) from by refine CutAt.below ?_ hb9; (first | exact CT.out | exact CT.out.drew | exact CT.out.alloc _ | exact (CT.out.alloc _).drew | exact (CT.out.alloc _).alloc _ | exact ((CT.out.alloc _).alloc _).drew | exact CT.out.drewN _ | exact (CT.out.drewN _).alloc _))
         clear hb9)
      | (go_at_call 19
         (with_reducible refine (HM3.out _ _ ?_ ?_).mono ?_)
         focus (first | exact CT.out | exact CT.out.drew | exact CT.out.alloc _ | exact (CT.out.alloc _).drew | exact (CT.out.alloc _).alloc _ | exact ((CT.out.alloc _).alloc _).drew | exact CT.out.drewN _ | exact (CT.out.drewN _).alloc _)
         focus (first | assumption | exact row_new | (refine row_new' ?_; simp) | exact row_old row_new | (refine row_old (row_new' ?_); simp) | (refine row_old ?_; assumption))
         rintro e w9 ⟨rfl, hb9⟩
         have hb9 := undrewC hb9
         (try (have q1 := row_kept (o := .cells #[.slice T tl tc] 28 (0, 0)) hb9 row_new)); (try simp only [World.size_alloc] at q1)
         (try (have q1 := row_kept (o := .cells #[.slice T tl tc] 28 (0, 0)) hb9 (row_old row_new))); (try simp only [World.size_alloc] at q1)
         have CT := Lib.hid (show CutAt w4 w9 A B B1 B2 C T K xs x x' ys (xs ++ ys) from by refine CutAt.below ?_ hb9; (first | exact CT.out | exact CT.out.drew | exact CT.out.alloc _ | exact (CT.out.alloc _).drew | exact (CT.out.alloc _).alloc _ | exact ((CT.out.alloc _).alloc _).drew | exact CT.out.drewN _ | exact (CT.out.drewN _).alloc _))
         clear hb9)
      | (go_at_call 20
         (with_reducible refine (HE.out _ ?_).mono ?_)
         focus (first | exact CT.out | exact CT.out.drew | exact CT.out.alloc _ | exact (CT.out.alloc _).drew | exact (CT.out.alloc _).alloc _ | exact ((CT.out.alloc _).alloc _).drew | exact CT.out.drewN _ | exact (CT.out.drewN _).alloc _)
         rintro e w9 ⟨rfl, q9, hq9⟩
         have hb9 := below_ofDrew hq9
         (try (have hr9 := HRD.out.below hb9; have HRD := Lib.hid hr9; clear hr9))
         have CT := Lib.hid (show CutAt w4 w9 A B B1 B2 C T K xs x x' ys (xs ++ ys) from by refine CutAt.below ?_ hb9; (first | exact CT.out | exact CT.out.drew | exact CT.out.alloc _ | exact (CT.out.alloc _).drew | exact (CT.out.alloc _).alloc _ | exact ((CT.out.alloc _).alloc _).drew | exact CT.out.drewN _ | exact (CT.out.drewN _).alloc _))
         clear hb9 hq9)
      | (go_at_call 11
         (with_reducible refine (HR.out _ ?_).mono ?_)
         focus (first | exact CT.out | exact CT.out.drew | exact CT.out.alloc _ | exact (CT.out.alloc _).drew | exact (CT.out.alloc _).alloc _ | exact ((CT.out.alloc _).alloc _).drew | exact CT.out.drewN _ | exact (CT.out.drewN _).alloc _)
         rintro e w9 ⟨rfl, q9, hq9⟩
         have hb9 := below_ofDrew hq9
         (try (have hr9 := HRD.out.below hb9; have HRD := Lib.hid hr9; clear hr9))
         have CT := Lib.hid (show CutAt w4 w9 A B B1 B2 C T K xs x x' ys (xs ++ ys) from by refine CutAt.below ?_ hb9; (first | exact CT.out | exact CT.out.drew | exact CT.out.alloc _ | exact (CT.out.alloc _).drew | exact (CT.out.alloc _).alloc _ | exact ((CT.out.alloc _).alloc _).drew | exact CT.out.drewN _ | exact (CT.out.drewN _).alloc _))
         clear hb9 hq9)
      | (go_at_call 13
         (with_reducible refine (HJC.out _ _ ?_ ?_).mono ?_)
         focus (first | exact CT.out | exact CT.out.drew | exact CT.out.alloc _ | exact (CT.out.alloc _).drew | exact (CT.out.alloc _).alloc _ | exact ((CT.out.alloc _).alloc _).drew | exact CT.out.drewN _ | exact (CT.out.drewN _).alloc _)
         focus (first | assumption | exact row_new | (refine row_new' ?_; simp) | exact row_old row_new | (refine row_old (row_new' ?_); simp) | (refine row_old ?_; assumption))
         rintro e w9 ⟨D, dc, rfl, rdD, hb9⟩
         have hb9 := undrewC hb9
         have HRD := Lib.hid rdD
         have CT := Lib.hid (show CutAt w4 w9 A B B1 B2 C T K xs x x' ys (xs ++ ys) from by refine CutAt.below ?_ hb9; (first | exact CT.out | exact CT.out.drew | exact CT.out.alloc _ | exact (CT.out.alloc _).drew | exact (CT.out.alloc _).alloc _ | exact ((CT.out.alloc _).alloc _).drew | exact CT.out.drewN _ | exact (CT.out.drewN _).alloc _))
         clear hb9 rdD)
      | (go_at_call 20
         (with_reducible refine (HF.out _ _ _ ?_ ?_).mono ?_)
         focus (first | exact CT.out | exact CT.out.drew | exact CT.out.alloc _ | exact (CT.out.alloc _).drew | exact (CT.out.alloc _).alloc _ | exact ((CT.out.alloc _).alloc _).drew | exact CT.out.drewN _ | exact (CT.out.drewN _).alloc _)
         focus (first | exact HRD.out | exact HRD.out.drewN _ | exact HRD.out.alloc _)
         rintro e w9 ⟨rfl, q9, hq9⟩
         have hb9 := below_ofDrew hq9
         (try (have hr9 := HRD.out.below hb9; have HRD := Lib.hid hr9; clear hr9))
         have CT := Lib.hid (show CutAt w4 w9 A B B1 B2 C T K xs x x' ys (xs ++ ys) from by refine CutAt.below ?_ hb9; (first | exact CT.out | exact CT.out.drew | exact CT.out.alloc _ | exact (CT.out.alloc _).drew | exact (CT.out.alloc _).alloc _ | exact ((CT.out.alloc _).alloc _).drew | exact CT.out.drewN _ | exact (CT.out.drewN _).alloc _))
         clear hb9 hq9)
      | fail)
    all_goals
      go_wp2_with fail
      go_ret
      exact ⟨rfl, HB4.out.trans (CT.out.bel.mono HB4.out.size)⟩

theorem laidOutC : laidOutB Tryd.prog = true := by kernel_rfl
theorem ownKnC : ownKnob Tryd.prog.godebug = none := by kernel_rfl

theorem hashCuts_contract (H : Type) (enc : TypeId × Value → H) (W : World) (base : Nat) (args : Array Value) (ds gs : List (DataW H)) (before : List MemPlace)
    (hval : ∀ (j : Nat) t v, Tryd.f5.params[j]? = some t → args[j]? = some v → Value.okWide Tryd.prog W .any base t v)
    (hW : DataW.Whole enc Tryd.prog Tryd.f5.params.toList Rows.hashCutsSpec.vars false W args.toList ds gs before) (hL : laidMetH Tryd.prog Rows.hashCutsRow.laid W) :
    Calls Tryd.prog 5 args W fun e W' => ∃ v, e = .returned v ∧ Rows.hashCutsSpec.post enc Tryd.prog Tryd.f5 false true false false W args v W' := by
  have hW' := hW
  obtain ⟨p, q, hA0, hV, rfl, hfz, hnd⟩ := hW
  have hA : DataW.TrodAll enc Tryd.prog W 0 (fun _ => true) true Tryd.f5.params.toList args.toList ds p := hA0
  rw [Tryd.params5] at hA hval
  obtain ⟨v0, vs0, d0, ds0, p0, q0, hargs, rfl, rfl, h0, r0⟩ := trodAll_cons hA
  obtain ⟨v1, vs1, d1, ds1, p1, q1, rfl, rfl, rfl, h1, r1⟩ := trodAll_cons r0
  obtain ⟨v2, vs2, d2, ds2, p2, q2, rfl, rfl, rfl, h2, r2⟩ := trodAll_cons r1
  obtain ⟨v3, vs3, d3, ds3, p3, q3, rfl, rfl, rfl, h3, r3⟩ := trodAll_cons r2
  obtain ⟨rfl, rfl, rfl⟩ := trodAll_nil r3
  obtain rfl : args = #[v0, v1, v2, v3] := by cases args; simp_all
  obtain ⟨rfl, rfl⟩ := trodVars_none hV
  obtain ⟨A0, c0, xs0, rfl, hm0, hx0⟩ := open_bytes Tryd.underlying28 Tryd.underlying5 (by kernel_rfl) (hval 0 28 v0 rfl rfl) h0
  obtain ⟨A1, c1, xs1, rfl, hm1, hx1⟩ := open_bytes Tryd.underlying28 Tryd.underlying5 (by kernel_rfl) (hval 1 28 v1 rfl rfl) h1
  obtain ⟨A2, c2, xs2, rfl, hm2, hx2⟩ := open_bytes Tryd.underlying28 Tryd.underlying5 (by kernel_rfl) (hval 2 28 v2 rfl rfl) h2
  obtain ⟨a3, rfl, rfl, rfl, w3⟩ := open_int Tryd.underlying3 (hval 3 3 v3 rfl rfl) h3
  clear hA0 hA
  unfold maxLen at hm0
  unfold maxLen at hm1
  unfold maxLen at hm2
  have b3 := bounds_i64 w3
  refine (cuts_walk A0 c0 xs0 A1 c1 xs1 A2 c2 xs2 a3 W (table hL) hx0 hm0.1 (by omega) hx1 hm1.1 (by omega) hx2 hm2.1 (by omega) (by omega) (by omega)).mono fun e W' ⟨he, hg⟩ => ?_
  subst he
  exact ⟨_, rfl, law_end laidOutC (by kernel_rfl) (by kernel_rfl) Tryd.underlying4 rfl hW' ⟨rfl, rfl, rfl⟩ hg⟩

theorem hashCuts_met (os : Os) : laidMet Tryd.prog Rows.hashCutsRow.laid ((laidWorld os).forCall (fun _ _ => 0) ⟨#[], #[.slice none 0 0, .slice none 0 0, .slice none 0 0, .int .i64 0], []⟩).memory :=
  laidMet_of_run' 8 (by kernel_rfl) (by kernel_rfl)
theorem hashCuts_reads (os : Os) {H : Type} (enc : TypeId × Value → H) : ∃ places, DataW.whole enc Tryd.prog ((laidWorld os).forCall (fun _ _ => 0) ⟨#[], #[.slice none 0 0, .slice none 0 0, .slice none 0 0, .int .i64 0], []⟩).memory Tryd.f5.params.toList Rows.hashCutsSpec.vars false (#[.slice none 0 0, .slice none 0 0, .slice none 0 0, .int .i64 0] : Array Value).toList 8 = some ([.nil, .nil, .nil, .lit (.int .i64 0)], [], places) :=
  ⟨[], by kernel_rfl⟩

set_option maxRecDepth 100000 in
theorem hashCuts_lifted (os : Os) (started : os.Started) (H : Type) (enc : TypeId × Value → H) (F : Stop.Interp) :
    ReturnsInHanded {} Tryd.checked os 5 .any ((OpenSpec.ofChange Rows.hashCutsSpec).preRow enc Tryd.prog Tryd.f5 Rows.hashCutsRow.domain false Rows.hashCutsRow.laid) (((OpenSpec.ofChange Rows.hashCutsSpec).at F).post enc Tryd.prog Tryd.f5 false true false false) := by
  obtain ⟨places, hx⟩ := hashCuts_reads os enc
  refine returnsInHanded_of_row (C := Tryd.checked) (s := OpenSpec.ofChange Rows.hashCutsSpec) ownKnC started (by kernel_rfl) Tryd.func5
    (witness_row_at (enc := enc) (C := Tryd.checked) false (laidWorld os) #[.slice none 0 0, .slice none 0 0, .slice none 0 0, .int .i64 0] rfl (by kernel_rfl) (by kernel_rfl) (by kernel_rfl)
      (OpenSpec.preRow_of_cond 8 hx (by kernel_rfl) (fun k hk => by cases hk) (by kernel_rfl) (hashCuts_met os))) ?_
  intro W base args ds gs before hval hW _ _ _ hL _ _
  exact hashCuts_contract H enc W base args ds gs before hval hW hL

theorem hashCuts_said : Rows.HashCutsSaid :=
  OpenClaim.holds_of_cond 5 Tryd.f5 rfl rfl rfl rfl rfl rfl rfl ⟨rfl, rfl, rfl, rfl, rfl⟩ rfl rfl rfl rfl rfl (by kernel_rfl) Tryd.func5 (by kernel_rfl)
    (of_decide_eq_true (by kernel_rfl)) (by unfold Func.isWrapper; first | (rw [if_pos (by decide +kernel)]; kernel_rfl) | (rw [if_neg (by decide +kernel)]; exact ⟨rfl, rfl⟩))
    (fun os started H enc _ F => by rw [OpenClaim.pre_eq_preRow]; exact hashCuts_lifted os started H enc F)

theorem hashCuts_plain (f : FuncId) (fn : Func) (hf : Tryd.pinned.checked.prog.funcNamed "manometer/manometerlaw03.HashCuts" = some f) (hfn : Tryd.pinned.checked.prog.funcs[f]? = some fn) :
    false = Tryd.pinned.checked.prog.looks [] ∧ ∀ (j : Nat) t, fn.params[j]? = some t → Tryd.pinned.checked.prog.wantsStandIn t = false := by
  obtain rfl : f = 5 := Option.some.inj ((show Tryd.prog.funcNamed "manometer/manometerlaw03.HashCuts" = some 5 by kernel_rfl).symm.trans hf) |>.symm
  obtain rfl : fn = Tryd.f5 := (Option.some.inj (Tryd.func5.symm.trans hfn)).symm
  refine ⟨by kernel_rfl, fun j t ht => ?_⟩
  rw [Tryd.params5] at ht
  have hm : t = 28 ∨ t = 28 ∨ t = 28 ∨ t = 3 := by simpa using Array.mem_of_getElem? ht
  rcases hm with rfl | rfl | rfl | rfl
  · exact (show Tryd.prog.wantsStandIn 28 = false by kernel_rfl)
  · exact (show Tryd.prog.wantsStandIn 28 = false by kernel_rfl)
  · exact (show Tryd.prog.wantsStandIn 28 = false by kernel_rfl)
  · exact (show Tryd.prog.wantsStandIn 3 = false by kernel_rfl)

theorem hashCuts_card : Rows.HashCutsCardSaid :=
  Claim7.holds_tied_plain_at .later [] _ _ _ _ hashCuts_said (fun _ h => by cases h) (by kernel_rfl) (fun _ h => by cases h) hashCuts_row_tie rfl ⟨rfl, rfl⟩ (by kernel_rfl) rfl hashCuts_plain (by kernel_rfl)
#print axioms hashCuts_card
end
end Go.Proofs.YtgpmghnemhngeaaDoor
