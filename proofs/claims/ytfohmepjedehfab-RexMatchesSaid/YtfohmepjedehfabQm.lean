/-
  An escape that is an atom.
-/
import Derived.Test.YtfohmepjedehfabQk
import Derived.Test.YtfohmepjedehfabQi
namespace Go.Proofs.Ytfohmepjedehfab
set_option linter.unusedVariables false
set_option linter.unusedSimpArgs false
open Go.RowKit
theorem Mvd.then {p : Nat} {v v' : Value} {w w1 w2 : World} (m : Mv (fun k => k = p) w w1) (k : Mvd p v v' w1 w2) : Mvd p v v' w w2 := (Mvd.box m).trans k
section
set_option maxHeartbeats 1600000
set_option maxRecDepth 100000
theorem escape_any (p : Nat) (l : List Pc) (v : Value) (us : List Value) (L : List Atm) (w : World) (h : PIs w p l v us L) (h92 : nowP l = 92) :
    Calls Try.prog 104 #[.pointer (some ⟨p, 0, none⟩)] w (OutP p v L w (escapeP l)) := by
  obtain ⟨R, hR⟩ : ∃ R, R = escapeP l := ⟨_, rfl⟩
  rw [← hR]
  unfold escapeP at hR
  have hn1 : nowP l ≠ -1 := by rw [h92]; decide
  obtain ⟨W, hW⟩ : ∃ W, W = w.alloc (.cells #[.int .u64 0, .int .u64 0, .int .u64 0, .int .u64 0, .int .u64 0, .int .u64 0, .int .u64 0, .int .u64 0, .bool false] 85) := ⟨_, rfl⟩
  have hz : Zs w W := by rw [hW]; exact Zs.mk' w
  have h1 := hz.pis h
  have HW := Lib.hid hW; have HZ := Lib.hid hz; have H := Lib.hid h
  clear hW hz
  cases hm : manyL l with
  | some g =>
    rw [hm] at hR
    simp only at hR
    have hshr := (manyL_some h.ok hm).1
    have hf : L.length + l.tail.tail.length ≤ 256 := by have := hshr.lt; have := h.few; omega
    have HM := Lib.hid (many_some p l v us L g W h1 hm)
    have HR := Lib.hid hR
    have HF := Lib.hid hf
    have hlt := h1.lt
    have hne := fun b l c W => ne_nil (some ⟨b, 0, none⟩) l c W
    simp only [Option.isNone_some, Bool.not_false] at hne
    clear hR hm h hshr hf h92 hn1 h1
    go_enter Try.func104, Try.ntmps104
    go_wp2_with fail
    rw [← HW.out]
    go_wp2_with fail
    refine HM.out.mono ?_
    rintro e w1 ⟨b, n, c, rfl, hn, ho, h1, hm1⟩
    subst hn
    have HA := Lib.hid (add_any p _ v us L _ g false w1 h1 (ho.lower (by omega)) HF.out)
    have HM1 := Lib.hid hm1; clear hm1 ho h1
    go_wp2_with fail
    refine HA.out.mono ?_
    rintro e w2 ⟨v', us', rfl, h2, hm2⟩
    have hq9 := Mvd.then HM1.out hm2
    go_wp2_with (first
      | (refine wpList_store_agg (o := ⟨none, _, _, _, _, _⟩) ?_ 85 (.tmp 2) (.tmp 12) ?_ (w.heap.size) 0 (partL (compP (.set g false) L).1) ?_ ?_ 85 zP (HZ.out.at' H.out hq9.mv) ?_ ?_ ?_ ?_; rfl; rfl; rfl; rfl; kernel_rfl; (show 0 + 9 ≤ 9; decide); exact partL_one _; intro w9 hw9 hm9 hs9; rw [spl9 _ rfl] at hw9)
      | fail)
    refine bodyPost_cell rfl (w.heap.size) 85 (partL (compP (.set g false) L).1).toArray rfl hw9 (by kernel_rfl) (by kernel_rfl) rfl ?_
    rw [HR.out]
    exact HZ.out.fin H.out h2 hq9 hm9
  | none =>
    rw [hm] at hR
    simp only at hR
    have HM := Lib.hid (many_none p l v us L W h1 hm)
    have hne := fun W => ne_nil none 0 0 W
    simp only [Option.isNone_none, Bool.not_true] at hne
    have he := escaped_any p l v us L 0 W h1 hn1 (by decide) (by decide)
    have hshr := fun c l1 (e : rescP 0 l = .ok (c, l1)) => (rescP_shr h.ok hn1 e).1
    have hfew := h.few
    have hlt := h1.lt
    generalize rescP 0 l = r1 at he hR hshr
    clear h hm h92 hn1 h1
    cases r1 with
    | error f =>
      have HR := Lib.hid hR; have HE := Lib.hid he; clear hR he hshr hfew
      go_enter Try.func104, Try.ntmps104
      go_wp2_with fail
      rw [← HW.out]
      go_wp2_with fail
      refine HM.out.mono ?_
      rintro e w1 ⟨rfl, rfl⟩
      go_wp2_with fail
      refine HE.out.mono ?_
      rintro e w2 ⟨rfl, hm2⟩
      have HM2 := Lib.hid hm2; clear hm2
      unfold flE
      go_wp2
      rw [HR.out]
      exact ⟨rfl, rfl, HZ.out.err ((Mvd.box HM2.out).mv)⟩
    | ok x =>
      obtain ⟨c, l1⟩ := x
      simp only at hR
      have hf : L.length + l1.length ≤ 256 := by have := (hshr c l1 rfl).lt; omega
      have HR := Lib.hid hR; have HE := Lib.hid he; have HF := Lib.hid hf; clear hR he hshr hfew hf
      go_enter Try.func104, Try.ntmps104
      go_wp2_with fail
      rw [← HW.out]
      go_wp2_with fail
      refine HM.out.mono ?_
      rintro e w1 ⟨rfl, rfl⟩
      go_wp2_with fail
      refine HE.out.mono ?_
      rintro e w2 ⟨rfl, h2, hm2⟩
      have hb : RowKit.Below w2.heap.size w2 (w2.alloc (.cells #[.int .i32 c, .int .i32 c] 128)) := (RowKit.Below.refl _ w2).alloc (Nat.le_refl _) _
      have hlt2 := h2.lt
      have HA := Lib.hid (add_any p _ v us L _ [(c, c)] false _ (h2.below hb) ((own_fresh (w := w2) (e := 128) (size := 2) (n := 1) (xs := [.int .i32 c, .int .i32 c]) rfl (by decide)).lower (by omega)) HF.out)
      have HM2 := Lib.hid (hm2.alloc (.cells #[.int .i32 c, .int .i32 c] 128)); clear hm2 h2 hb
      go_wp2_with fail
      refine HA.out.mono ?_
      rintro e w3 ⟨v', us', rfl, h3, hm3⟩
      have hq9 := Mvd.then HM2.out hm3
      go_wp2_with (first
        | (refine wpList_store_agg (o := ⟨none, _, _, _, _, _⟩) ?_ 85 (.tmp 2) (.tmp 21) ?_ (w.heap.size) 0 (partL (compP (.set [(c, c)] false) L).1) ?_ ?_ 85 zP (HZ.out.at' H.out hq9.mv) ?_ ?_ ?_ ?_; rfl; rfl; rfl; rfl; kernel_rfl; (show 0 + 9 ≤ 9; decide); exact partL_one _; intro w9 hw9 hm9 hs9; rw [spl9 _ rfl] at hw9)
        | fail)
      refine bodyPost_cell rfl (w.heap.size) 85 (partL (compP (.set [(c, c)] false) L).1).toArray rfl hw9 (by kernel_rfl) (by kernel_rfl) rfl ?_
      rw [HR.out]
      exact HZ.out.fin H.out h3 hq9 hm9
end
end Go.Proofs.Ytfohmepjedehfab
