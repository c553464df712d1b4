/-
  A call that the law lets happen to a disk.
-/
import Derived.Laws.Bits64
import Derived.Test.YtnmbjhpecblioaaDc
import Derived.Test.YtnmbjhpecblioaaJn
import Derived.Test.YtnmbjhpecblioaaDop
namespace Go.Proofs.Ytnmbjhpecblioaa
set_option linter.unusedVariables false
set_option linter.unusedSimpArgs false
open Go.Maps Go.RowKit
def doD (room : Nat) (L : List Fl) (o : OpD) : Int × List Fl :=
  if o.kd = 0 then appD room L o.nm o.bs
  else if o.kd = 1 then syncD L o.nm
  else if o.kd = 2 then cutD L o.nm o.n
  else if o.kd = 3 then remD L o.nm
  else if o.kd = 4 then swapD L o.nm o.nt
  else if o.kd = 5 then (0, crashD o.n L)
  else (0, L)
theorem xor_u8 (b : UInt8) : bits .xor .u8 (b.toNat : Int) 255 = (((b.toNat ^^^ 255 : Nat)) : Int) ∧ b.toNat ^^^ 255 < 256 := by
  have hb := b.toNat_lt
  have hx : b.toNat ^^^ 255 < 2 ^ 8 := Nat.xor_lt_two_pow (by omega) (by omega)
  refine ⟨?_, hx⟩
  have h : ∀ n : Nat, n < 256 → bits .xor .u8 (n : Int) 255 = ((n ^^^ 255 : Nat) : Int) := by decide +kernel
  exact h _ (by omega)
/-- A row of bytes, whatever they are. -/
def SR (w : World) (A : Option Addr) (n : Nat) : Prop := ∀ j, j < n → ∃ (g : Nat) (cs : Array Value) (b : UInt8), A = some ⟨g, 0, none⟩ ∧ w.heap[g]? = some (.cells cs 5 (0, 0)) ∧ cs[j]? = some (Bv b)
theorem sr_own {w : World} {base c : Nat} {A : Option Addr} {xs : List UInt8} (h : w.ownsRow base 5 1 (.slice A xs.length c) xs.length (xs.map Bv)) : SR w A xs.length := by
  intro j hj
  rcases h.2 with ⟨h1, h2⟩ | ⟨g, cap, cur, e, hB, hg, hnc, hcm, hcs, htk⟩
  · omega
  · injection e with e1 e2 e3
    refine ⟨g, cur, xs[j], e1, hg, ?_⟩
    have h1 : (xs.map Bv)[j]? = some (Bv xs[j]) := by simp [hj]
    rw [← htk, List.getElem?_take] at h1
    split at h1
    · simpa using h1
    · cases h1
theorem SR.moved {w w' : World} {A : Option Addr} {n : Nat} (h : SR w A n) (hk : ∀ g, A.map (·.block) = some g → w'.heap[g]? = w.heap[g]?) : SR w' A n := by
  intro j hj
  obtain ⟨g, cs, b, rfl, hg, hc⟩ := h j hj
  exact ⟨g, cs, b, rfl, (hk g rfl).trans hg, hc⟩
theorem SR.set {w : World} {g n k : Nat} (h : SR w (some ⟨g, 0, none⟩) n) {z : Nat} (hz : z < 256) : SR (w.setCell ⟨g, k, none⟩ (.int .u8 (z : Nat))) (some ⟨g, 0, none⟩) n := by
  intro j hj
  obtain ⟨g', cs, b, e, hg, hc⟩ := h j hj
  injection e with e; injection e with e _ _; subst e
  have hs := set_blk hg k (.int .u8 (z : Nat))
  by_cases hjk : k = j
  · subst hjk
    have hlt : k < cs.size := (Array.getElem?_eq_some_iff.1 hc).1
    exact ⟨g, _, UInt8.ofNat z, rfl, hs, by rw [Array.getElem?_setIfInBounds_self_of_lt hlt, byte_of rfl hz]⟩
  · exact ⟨g, _, b, rfl, hs, by rw [Array.getElem?_setIfInBounds_ne hjk]; exact hc⟩
section
variable {w w1 w' : World} {db mb room : Nat} {es : List Ent} {r : Int × List Fl} {e : Ending}
theorem MutOut.pre (h : MutOut w1 db mb room es r e w') (hb : Below w.heap.size w w1) : MutOut w db mb room es r e w' := by
  obtain ⟨h1, es', h2, h3, h4, h5⟩ := h
  refine ⟨h1, es', h2, h3, (Mv.of_below hb _).trans h4 (fun _ _ hk => hk), fun k hk => ?_⟩
  rcases h5 k hk with h | h
  · exact .inl h
  · exact .inr (Nat.le_trans hb.size h)
end
section
set_option maxHeartbeats 1600000
set_option maxRecDepth 100000
variable {w : World} {db mb room : Nat} {es : List Ent}
theorem does_app (h : DiskE w db mb room es) (o : OpD) (ho : OpOk w o) (hl : o.bs.length ≤ 100000) (hk : o.kd = 0) : Calls Try.prog 11 #[.pointer (some ⟨db, 0, none⟩), .agg (opV o).toArray] w (MutOut w db mb room es (appD room (es.map val) o.nm o.bs)) := by
  obtain ⟨kd, nm, nt, A, c, bs, n⟩ := o
  simp only at hk hl ⊢
  subst hk
  obtain ⟨⟨ho1, ho2⟩, ho3, ho4, ho5⟩ := ho
  simp only at ho1 ho2 ho3 ho4 ho5
  obtain ⟨W, hW⟩ : ∃ W, W = w.alloc (.cells #[.int .i64 0, .string nm, .string nt, .slice A bs.length c, .int .i64 n] 35) := ⟨_, rfl⟩
  have hbw : Below w.heap.size w W := by rw [hW]; exact (Below.refl _ w).alloc (Nat.le_refl _) _
  have hbx : W.heap[w.heap.size]? = some (.cells #[.int .i64 0, .string nm, .string nt, .slice A bs.length c, .int .i64 n] 35 (0, 0)) := by rw [hW]; exact heap_alloc_new w _
  have HBX := Lib.hid (show ∀ W', Below W.heap.size W W' → W'.cell? ⟨w.heap.size, 0, none⟩ = some (.int .i64 0) ∧ W'.cell? ⟨w.heap.size, 1, none⟩ = some (.string nm) ∧ W'.cell? ⟨w.heap.size, 2, none⟩ = some (.string nt) ∧ W'.cell? ⟨w.heap.size, 3, none⟩ = some (.slice A bs.length c) ∧ W'.cell? ⟨w.heap.size, 4, none⟩ = some (.int .i64 n) from fun W' hb => by
    have h0 := (hb.block _ (blk_lt hbx)).trans hbx
    exact ⟨cell_blk h0 0, cell_blk h0 1, cell_blk h0 2, cell_blk h0 3, cell_blk h0 4⟩)
  obtain ⟨b0, b1, b2, b3, b4⟩ := HBX.out W (Below.refl _ _)
  have HW := Lib.hid hW; have HBW := Lib.hid hbw; have HD := Lib.hid (h.below hbw)
  have hbj := (Below.refl _ W).alloc (Nat.le_refl _) (.cells #[.slice A bs.length c] 33)
  have hsW : W.heap.size = w.heap.size + 1 := by rw [hW]; simp
  have hj := join_one W A c bs (ho3.below hbw) (by omega)
  have HSW := Lib.hid hsW
  rw [hsW] at hj
  have HJ := Lib.hid hj
  unfold opV
  clear hW hbw hbx h hbj ho3 hj hsW
  simp only
  go_enter Try.func11, Try.ntmps11
  go_wp2_with fail
  rw [← HW.out]
  go_wp2_with fail
  with_reducible refine HJ.out.mono ?_
  rintro e w1 ⟨v, rfl, hown, hb1⟩
  rw [← HSW.out] at hb1
  obtain ⟨A1, c1, rfl, hrd, -⟩ := own_bytes hown
  obtain ⟨a0, a1, a2, a3, a4⟩ := HBX.out w1 hb1
  have HOW := Lib.hid hown
  have HA := Lib.hid (append_any (HD.out.below hb1) nm ho1 A1 c1 bs hrd (by omega))
  clear b0 b1 b2 b3 b4 hrd hown
  go_wp2_with fail
  with_reducible refine HA.out.mono ?_
  rintro e w2 hM
  obtain ⟨rfl, es', D2, L2, hmv, hft⟩ := hM
  have HM := Lib.hid (And.intro D2 (And.intro L2 (And.intro hmv hft)))
  clear D2 L2 hmv hft
  obtain ⟨code, hcode⟩ : ∃ code, code = (appD room (es.map val) nm bs).1 := ⟨_, rfl⟩
  rw [← hcode]
  have HCO := Lib.hid hcode; clear hcode
  have hgb : ∀ g, A1.map (·.block) = some g → w.heap.size + 1 ≤ g ∧ g < w1.heap.size := fun g hg => by
    cases A1 with
    | none => cases hg
    | some a =>
      injection hg with hg
      change a.block = g at hg
      subst hg
      have := HOW.out.lt a.block rfl
      exact ⟨by omega, this.2⟩
  have hfoot : ∀ g, A1.map (·.block) = some g → ¬ foot db mb es g := fun g hg hf => by
    have h1 := HD.out.lt hf
    rw [HSW.out] at h1
    have := (hgb g hg).1; omega
  have HGB := Lib.hid hgb; have HFO := Lib.hid hfoot
  have HSR := Lib.hid ((sr_own HOW.out).moved fun g hg => HM.out.2.2.1.block g (hgb g hg).2 (hfoot g hg))
  clear hgb hfoot a0 a1 a2 a3 a4
  go_wp2
  go_loopw [23] (fun s23 wr => ∃ k : Nat, s23 = .int .i64 k ∧ k ≤ bs.length ∧ Aside (SR wr A1 bs.length) ∧ Aside (Mv (fun g => A1.map (·.block) = some g) w2 wr)) (fun s23 _ => bs.length - (intOf s23).toNat)
  case atStart => exact ⟨0, rfl, by omega, HSR.out, Mv.refl _ _⟩
  case round =>
    obtain ⟨k, rfl, hk, RS, MV⟩ := hrel
    have k0 : (0 : Int) ≤ (k : Int) := by omega
    by_cases hlt : k < bs.length
    · have k1 : (k : Int) < (bs.length : Int) := by omega
      obtain ⟨g, cs, b, rfl, hg, hc⟩ := RS.out k hlt
      have c0 := cell_blk hg k
      rw [hc, Bv_def] at c0
      have f0 := free_blk hg k
      obtain ⟨x1, x2⟩ := xor_u8 b
      have HS1 := Lib.hid (RS.out.set (k := k) x2)
      have HM1 := Lib.hid (MV.out.setCell (p := ⟨g, k, none⟩) (fun _ => rfl) (.int .u8 ((b.toNat ^^^ 255 : Nat) : Int)))
      generalize b.toNat ^^^ 255 = z at x1 HS1 HM1
      clear RS MV hg hc x2
      go_wp2_with fail
      go_roundw
      case rel => exact ⟨k + 1, by go_num, by omega, (show Aside _ from HS1.out), (show Aside _ from HM1.out)⟩
      case measure => simp [intOf]; omega
    · obtain rfl : k = bs.length := by omega
      go_wp2
      go_ret
      obtain ⟨D2, L2, hmv, hft⟩ := HM.out
      have hmv2 : Mv (foot db mb es) w w2 := ((Mv.of_below HBW.out (foot db mb es)).trans ((Mv.of_below hb1 (foot db mb es)).trans hmv (fun _ _ hk => hk)) (fun _ _ hk => hk))
      refine ⟨by rw [← HCO.out]; rfl, es', D2.moved (fun k hf => MV.out.block k (D2.lt hf) (fun hg => ?_)), L2, hmv2.trans MV.out (fun i hi hg => ?_), fun k hf => ?_⟩
      · rcases hft k hf with h1 | h1
        · exact HFO.out k hg h1
        · have := (HGB.out k hg).2; omega
      · have := (HGB.out i hg).1; omega
      · rcases hft k hf with h1 | h1
        · exact .inl h1
        · exact .inr (Nat.le_trans (Nat.le_trans HBW.out.size hb1.size) h1)
end
end Go.Proofs.Ytnmbjhpecblioaa
