/-
  Sums of what was written; the same text twice; parts one behind the other.
-/
import Derived.Test.YtmgjlldccmgpcaaDoorHe
import Derived.Test.YtmgjlldccmgpcaaDoorJn
namespace Go.Proofs.YtmgjlldccmgpcaaDoor
set_option linter.unusedVariables false
set_option linter.unusedSimpArgs false
open Go.RowKit

/-- A sum as the model has it. -/
def sumV (l : List UInt8) : Value := .agg (l.map Bv).toArray
theorem hashC_one (s : St) (R : List UInt8) (n : Nat) : ∀ v ∈ hashC s R n, v.oneCell' = true := by
  intro v hv
  simp only [hashC, stC, List.mem_cons, List.mem_append, List.not_mem_nil, or_false, List.mem_map] at hv
  rcases hv with rfl | (rfl | rfl | rfl | rfl | rfl | rfl | rfl | rfl) | (⟨x, _, rfl⟩ | rfl) <;> rfl

section
set_option maxHeartbeats 1600000
set_option maxRecDepth 100000
theorem clone_any (w : World) (p : Nat) (xs : List UInt8) (h : HashIs w p xs) :
    Calls Tryd.prog 19 #[.pointer (some ⟨p, 0, none⟩)] w fun e w' => e = .returned (.pointer (some ⟨w.heap.size, 0, none⟩)) ∧ HashIs w' w.heap.size xs ∧ Below w.heap.size w w' := by
  obtain ⟨R, hr, hR⟩ := h
  have c0 := hr.cell 0
  rw [hashC_made] at c0
  obtain ⟨st, hst⟩ : ∃ st, st = blocksS iv (xs.length / 64) xs := ⟨_, rfl⟩
  rw [← hst] at hr
  have hln := hashC_length (s := st) (n := xs.length) hr.2
  have hce : ∀ (i : Nat) v, (hashC st R xs.length)[i]? = some v → w.cell? ⟨p, 0 + i, none⟩ = some v := fun i v hv => by rw [hr.cell, Nat.zero_add]; exact hv
  have hone := hashC_one st R xs.length
  obtain ⟨cl, hcl⟩ : ∃ cl, cl = hashC st R xs.length := ⟨_, rfl⟩
  rw [← hcl] at hln hce hone
  have HLN := Lib.hid hln; clear hln
  have HCE := Lib.hid hce; clear hce
  have HON := Lib.hid hone; clear hone
  have HR := Lib.hid hr; clear hr
  have HRT := Lib.hid hR; clear hR
  have HST := Lib.hid hst; clear hst
  have HCL := Lib.hid hcl; clear hcl
  go_enter Tryd.func19, Tryd.ntmps19
  go_wp2_with (first
    | (refine wpList_load_agg (o := ⟨some 15, _, _, _, _, _⟩) ?_ 57 (.tmp 14) ?_ p 0 ?_ cl ?_ ?_ ?_ ?_; rfl; rfl; rfl; kernel_rfl; (rw [HLN.out]; kernel_rfl); exact HCE.out)
    | (refine wpList_store_agg (o := ⟨none, _, _, _, _, _⟩) ?_ 57 (.tmp 3) (.tmp 15) ?_ w.heap.size 0 cl ?_ ?_ 57 _ (heap_alloc_new w _) ?_ ?_ HON.out ?_; rfl; rfl; rfl; rfl; (rw [HLN.out]; kernel_rfl); (rw [HLN.out]; decide); intro w7 hg7 hm7 hs7)
    | fail)
  have hb : Below w.heap.size w w7 := ((Below.refl _ w).alloc (Nat.le_refl _) _).trans (hm7.belowB (by simp) (fun k hk e => by omega))
  have hg8 : w7.heap[w.heap.size]? = some (.cells cl.toArray 57 (0, 0)) := by
    rw [hg7]
    congr 2
    simp [spl, splice, HLN.out]
  have HG8 := Lib.hid hg8; clear hg8 hg7 hs7 hm7
  go_wp2
  go_ret
  refine ⟨rfl, ⟨R, ⟨?_, HR.out.2⟩, HRT.out⟩, hb⟩
  rw [HG8.out, HCL.out, HST.out]

theorem hsum_any (w : World) (p : Nat) (xs : List UInt8) (h : HashIs w p xs) (ht : AddsMet w) (hl : xs.length ≤ 140737488350000) :
    Calls Tryd.prog 21 #[.pointer (some ⟨p, 0, none⟩)] w fun e w' => e = .returned (sumV (sha xs)) ∧ Below w.heap.size w w' := by
  obtain ⟨R, hr, hR⟩ := h
  have c0 := hr.cell 0
  rw [hashC_made] at c0
  have c73 := hr.cell 73
  rw [hashC_size hr.2] at c73
  have hpl := hr.lt
  obtain ⟨st, hst⟩ : ∃ st, st = blocksS iv (xs.length / 64) xs := ⟨_, rfl⟩
  rw [← hst] at hr
  have hln := hashC_length (s := st) (n := xs.length) hr.2
  have hce : ∀ (o : Obj) (i : Nat) v, (hashC st R xs.length)[i]? = some v → (w.alloc o).cell? ⟨p, 0 + i, none⟩ = some v := fun o i v hv => by
    rw [((hr.block (heap_alloc_old w o hpl)) : HashRaw (w.alloc o) p st R xs.length).cell, Nat.zero_add]; exact hv
  have k73 : ∀ (o1 o2 : Obj) (w7 : World), Mv (fun k => k = w.heap.size + 1) ((w.alloc o1).alloc o2) w7 → w7.cell? ⟨p, 73, none⟩ = some (.int .i64 (xs.length : Nat)) := fun o1 o2 w7 hm => by
    have hb7 := ((hm.block p (by simp; omega) (by omega)).trans (heap_alloc_old _ o2 (by simp; omega))).trans (heap_alloc_old w o1 hpl)
    rw [(hr.block hb7).cell]; exact hashC_size hr.2
  have K73 := Lib.hid k73; clear k73
  have hone := hashC_one st R xs.length
  obtain ⟨cl, hcl⟩ : ∃ cl, cl = hashC st R xs.length := ⟨_, rfl⟩
  rw [← hcl] at hln hce hone
  have HLN := Lib.hid hln; clear hln
  have HCE := Lib.hid hce; clear hce
  have HON := Lib.hid hone; clear hone
  have HR := Lib.hid hr; clear hr
  have HRT := Lib.hid hR; clear hR
  have HST := Lib.hid hst; clear hst
  have HCL := Lib.hid hcl; clear hcl
  have HT := Lib.hid ht; clear ht
  go_enter Tryd.func21, Tryd.ntmps21
  go_wp2_with (first
    | (refine wpList_load_agg (o := ⟨some 16, _, _, _, _, _⟩) ?_ 57 (.tmp 15) ?_ p 0 ?_ cl ?_ ?_ ?_ ?_; rfl; rfl; rfl; kernel_rfl; (rw [HLN.out]; kernel_rfl); exact HCE.out _)
    | (refine wpList_store_agg (o := ⟨none, _, _, _, _, _⟩) ?_ 57 (.tmp 3) (.tmp 16) ?_ (w.heap.size + 1) 0 cl ?_ ?_ 57 _ (heap_alloc_new2 w _ _) ?_ ?_ HON.out ?_; rfl; rfl; rfl; rfl; (rw [HLN.out]; kernel_rfl); (rw [HLN.out]; decide); intro w7 hg7 hm7 hs7; have hc73 := K73.out _ _ _ hm7; have HG7 := Lib.hid hg7; clear hg7)
    | fail)
  clear c73
  have hbz : Below w.heap.size w w7 := (((Below.refl _ w).alloc (Nat.le_refl _) _).alloc (by simp) _).trans (hm7.belowB (by simp; omega) (fun k hk e => by omega))
  have hres : w7.heap[w.heap.size]? = some (.cells (Array.replicate 32 (.int .u8 0)) 25 (0, 0)) := (hm7.block _ (by simp; omega) (by omega)).trans ((heap_alloc_old _ _ (by simp)).trans (heap_alloc_new w _))
  have hg8 : w7.heap[w.heap.size + 1]? = some (.cells (hashC st R xs.length).toArray 57 (0, 0)) := by
    rw [HG7.out, ← HCL.out]
    congr 2
    simp [spl, splice, HLN.out]
  have hi7 : HashIs w7 (w.heap.size + 1) xs := ⟨R, by rw [← HST.out]; exact ⟨hg8, HR.out.2⟩, HRT.out⟩
  have hz7 : w.heap.size + 2 = w7.heap.size := by rw [hs7]; simp
  have ht7 := HT.out.below hbz
  clear hg8 hm7 hs7 HG7
  have HI := Lib.hid hi7; clear hi7
  have HT7 := Lib.hid ht7; clear ht7
  have HZ := Lib.hid hz7; clear hz7
  have HRES := Lib.hid hres; clear hres
  refine (ending_any w7 xs.length (by omega)).mono ?_
  rintro e w8 ⟨v8, rfl, own8, hb8⟩
  obtain ⟨A8, c8, rfl, rd8, hA8, hn8, hm8⟩ := own_rd own8
  have hA8' : ∀ k, A8.map (·.block) = some k → k ≠ w.heap.size + 1 := by
    intro k hk e
    rw [hA8] at hk
    have := (own8.lt k hk).1
    have := HZ.out
    omega
  have hi8 := HI.out.below hb8
  have ht8 := HT7.out.below hb8
  have hres8 := (hb8.block w.heap.size (by have := HZ.out; omega)).trans HRES.out
  have hb8' := hbz.trans (hb8.mono (by have := HZ.out; omega))
  have hz8 : w.heap.size + 2 ≤ w8.heap.size := by have := HZ.out; have := hb8.size; omega
  have hzn : zerosN xs.length < 64 := by unfold zerosN; omega
  have hpd := padS_length xs.length
  have hll : (xs ++ padS xs.length).length / 64 = (xs.length + 9 + zerosN xs.length) / 64 := by rw [List.length_append, hpd, Nat.add_assoc]
  have hsha : sha xs = outS (blocksS iv ((xs ++ padS xs.length).length / 64) (xs ++ padS xs.length)) := by rw [hll]; rfl
  generalize hps : padS xs.length = ps at *
  generalize hpn : 9 + zerosN xs.length = pn at *
  have HPD := Lib.hid hpd; clear hpd
  have HSHA := Lib.hid hsha; clear hsha hll
  have HT8 := Lib.hid ht8; clear ht8
  have HI8 := Lib.hid hi8; clear hi8
  have HR8 := Lib.hid hres8; clear hres8
  have hpn2 : pn < 73 := by omega
  unfold maxLen at hm8
  clear hps hpn hA8 own8 hb8 hbz
  go_wp2_with fail
  refine (add_any w8 (w.heap.size + 1) xs ps A8 c8 pn HI8.out HT8.out HPD.out rd8 (fun _ => hA8') hn8 (by omega) (by omega)).mono ?_
  rintro e w9 ⟨rfl, hi9, hm9⟩
  obtain ⟨R9, hr9, _⟩ := hi9
  have hb9 : Below w.heap.size w w9 := hb8'.trans (hm9.belowB (by omega) (fun k hk e => by omega))
  have hres9 := (hm9.block w.heap.size (by omega) (by omega)).trans HR8.out
  have hz9 : w.heap.size + 2 ≤ w9.heap.size := by have := hm9.size; omega
  have hok : (blocksS iv ((xs ++ ps).length / 64) (xs ++ ps)).Ok := blocksS_ok iv_ok _ _
  generalize blocksS iv ((xs ++ ps).length / 64) (xs ++ ps) = s9 at *
  have HR9 := Lib.hid hr9; clear hr9
  have HRES9 := Lib.hid hres9; clear hres9
  obtain ⟨sl, hsl⟩ : ∃ sl, sl = stC s9 := ⟨_, rfl⟩
  have HSL := Lib.hid hsl; clear hsl
  go_wp2_with (first
    | (refine wpList_load_agg (o := ⟨some 24, _, _, _, _, _⟩) ?_ 54 (.tmp 23) ?_ (w.heap.size + 1) 1 ?_ sl ?_ ?_ ?_ ?_; rfl; rfl; rfl; kernel_rfl; (rw [HSL.out]; kernel_rfl); (rw [HSL.out]; intro i v hv; rw [HR9.out.cell, hashC_state _ _ _ i (by have := (List.getElem?_eq_some_iff.1 hv).1; exact this), ← stC_get _ i (by have := (List.getElem?_eq_some_iff.1 hv).1; exact this)]; exact hv))
    | fail)
  rw [HSL.out]
  refine (bytesOf_any w9 s9 hok).mono ?_
  rintro e wa ⟨rfl, hba⟩
  rw [← HSHA.out]
  have hresa := (hba.block w.heap.size (by omega)).trans HRES9.out
  have hbb := hb9.trans (hba.mono (by omega))
  have HRA := Lib.hid hresa; clear hresa
  obtain ⟨cm, hcm⟩ : ∃ cm, cm = (sha xs).map Bv := ⟨_, rfl⟩
  have hcn : cm.length = 32 := by rw [hcm, List.length_map, sha_length]
  have hone : ∀ v ∈ cm, v.oneCell' = true := by rw [hcm]; intro v hv; obtain ⟨x, _, rfl⟩ := List.mem_map.1 hv; rfl
  rw [← hcm]
  have HCM := Lib.hid hcm; clear hcm
  have HCN := Lib.hid hcn; clear hcn
  have HON2 := Lib.hid hone; clear hone
  go_wp2_with (first
    | (refine wpList_store_agg (o := ⟨none, _, _, _, _, _⟩) ?_ 25 (.tmp 2) (.tmp 25) ?_ w.heap.size 0 cm ?_ ?_ 25 (Array.replicate 32 (.int .u8 0)) HRA.out ?_ ?_ HON2.out ?_; rfl; rfl; rfl; rfl; (rw [HCN.out]; kernel_rfl); (rw [HCN.out]; decide); intro wb hgb hmb hsb)
    | fail)
  have hg9 : wb.heap[w.heap.size]? = some (.cells cm.toArray 25 (0, 0)) := by
    rw [hgb]
    congr 2
    simp [spl, splice, HCN.out]
  have HG9 := Lib.hid hg9; clear hg9 hgb hsb
  refine bodyPost_cell rfl w.heap.size 25 cm.toArray rfl HG9.out (by kernel_rfl) (by rw [List.size_toArray, HCN.out]; kernel_rfl) rfl ⟨?_, hbb.trans (hmb.belowB (by have := hbb.size; omega) (fun k hk e => by omega))⟩
  rw [HCM.out]
  rfl
end
end Go.Proofs.YtmgjlldccmgpcaaDoor
