/-
  Sums with a key.
-/
import Derived.Deep.RegionHeld3
import Derived.StillTailTactics
import Derived.Test.YtgpmghnemhngeaaDoorC03
namespace Go.Proofs.YtgpmghnemhngeaaDoor
section
set_option linter.unusedVariables false
set_option linter.unusedSimpArgs false
open Go.RowKit

/-- A new variable, and what is stored into it whole. -/
theorem fresh_store {w1 w2 : World} {ob : Obj} {cs : List Value} {N : Nat} {z : Value} {t : TypeId} (hg : w2.heap[w1.heap.size]? = some (.cells (spl (Array.replicate N z) 0 cs) t (0, 0)))
    (hm : Mv (fun k => k = w1.heap.size) (w1.alloc ob) w2) (hs : w2.heap.size = (w1.alloc ob).heap.size) (hl : cs.length = N) :
    w2.heap[w1.heap.size]? = some (.cells cs.toArray t (0, 0)) ∧ Below w1.heap.size w1 w2 ∧ w2.heap.size = w1.heap.size + 1 := by
  refine ⟨?_, ((Below.refl _ w1).alloc (Nat.le_refl _) ob).trans (hm.belowB (by simp) (fun k hk e => by omega)), by rw [hs]; simp⟩
  rw [hg]
  congr 2
  simp [spl, splice, hl, List.drop_eq_nil_of_le]
/-- The sum with a key. -/
def macS (K l : List UInt8) : List UInt8 := sha (maskL (fullK K) 0x5c ++ sha (maskL (fullK K) 0x36 ++ l))
/-- Parts laid beside one another, written. -/
theorem write_parts (w : World) (p : Nat) (xs : List UInt8) (P : List (Option Addr × Nat × List UInt8)) (cells : Array Value) (n : Nat) (l : List UInt8) (hc : cells = (P.map partV).toArray) (hn : P.length = n) (hl : joined P = l)
    (h : ∀ q ∈ P, Rd w q.1 (q.2.2.map Bv) ∧ q.2.2.length ≤ q.2.1 ∧ q.2.1 ≤ 9223372036854775807) (hi : HashIs w p xs) (ho : ∀ q ∈ P, ∀ k, q.1.map (·.block) = some k → k ≠ p)
    (hll : xs.length + l.length ≤ 100000000) (hnn : n ≤ 1000) (ht : AddsMet w) :
    Calls Tryd.prog 16 #[.pointer (some ⟨p, 0, none⟩), .slice (some ⟨w.heap.size, 0, none⟩) n n] (w.alloc (.cells cells 28)) fun e w' => e = .returned (.int .i64 0) ∧ HashIs w' p (xs ++ l) ∧ Mv (fun k => k = p) w w' := by
  subst hc hl
  have hb := (Below.refl _ w).alloc (Nat.le_refl _) (.cells (P.map partV).toArray 28)
  have hpl := hi.lt
  refine (write_any _ p xs (some ⟨w.heap.size, 0, none⟩) n n P (hi.below hb) (ht.below hb) hn (parts_new w P h) ⟨fun _ k e => by simp at e; omega, fun q hq _ k e => ho q hq k e⟩ (by omega) (by omega)).mono ?_
  rintro e w' ⟨rfl, h1, h2⟩
  exact ⟨rfl, h1, (Mv.of_below hb _).trans h2 (fun _ _ h => h)⟩

section
set_option maxHeartbeats 1600000
set_option maxRecDepth 100000
theorem mac_any (w : World) (A S : Option Addr) (ca n cS m : Nat) (K : List UInt8) (P : List (Option Addr × Nat × List UInt8)) (hn : K.length = n) (hx : Rd w A (K.map Bv)) (hc : n ≤ ca) (hm : ca ≤ 9223372036854775807) (hb : n ≤ 100000000)
    (ht : AddsMet w) (hpn : P.length = m) (hP : PartsRd w S P) (hl : (joined P).length ≤ 90000000) (hmm : m ≤ 9223372036854775807) :
    Calls Tryd.prog 19 #[.slice A n ca, .slice S m cS] w fun e w' => e = .returned (sumV (macS K (joined P))) ∧ Below w.heap.size w w' := by
  have hb0 := (Below.refl _ w).alloc (Nat.le_refl _) (.cells (Array.replicate 32 (.int .u8 0)) 25)
  have hz0 : (w.alloc (.cells (Array.replicate 32 (.int .u8 0)) 25)).heap.size = w.heap.size + 1 := by simp
  have hr0 := heap_alloc_new w (.cells (Array.replicate 32 (.int .u8 0)) 25)
  have HP := Lib.hid hP; clear hP
  have HPN := Lib.hid hpn; clear hpn
  have HN := Lib.hid hn; clear hn
  have HX := Lib.hid hx; clear hx
  have HT := Lib.hid ht; clear ht
  obtain ⟨fl, hfl⟩ : ∃ fl, fl = (fullK K).map Bv := ⟨_, rfl⟩
  obtain ⟨il, hil⟩ : ∃ il, il = (maskL (fullK K) 0x36).map Bv := ⟨_, rfl⟩
  obtain ⟨ol, hol⟩ : ∃ ol, ol = (maskL (fullK K) 0x5c).map Bv := ⟨_, rfl⟩
  have hfn : fl.length = 64 := by rw [hfl, List.length_map, fullK_length]
  have hin : il.length = 64 := by rw [hil, List.length_map, maskL_length, fullK_length]
  have hon : ol.length = 64 := by rw [hol, List.length_map, maskL_length, fullK_length]
  have hfo : ∀ v ∈ fl, v.oneCell' = true := by rw [hfl]; exact bytes_one _
  have hio : ∀ v ∈ il, v.oneCell' = true := by rw [hil]; exact bytes_one _
  have hoo : ∀ v ∈ ol, v.oneCell' = true := by rw [hol]; exact bytes_one _
  have HFL := Lib.hid hfl; clear hfl
  have HIL := Lib.hid hil; clear hil
  have HOL := Lib.hid hol; clear hol
  have HFN := Lib.hid hfn; clear hfn
  have HIN := Lib.hid hin; clear hin
  have HOLN := Lib.hid hon; clear hon
  have HFO := Lib.hid hfo; clear hfo
  have HIO := Lib.hid hio; clear hio
  have HOO := Lib.hid hoo; clear hoo
  go_enter Tryd.func19, Tryd.ntmps19
  go_wp2_with fail
  change Calls _ _ _ (w.alloc (.cells (Array.replicate 32 (.int .u8 0)) 25)) _
  generalize w.alloc (.cells (Array.replicate 32 (.int .u8 0)) 25) = w0 at *
  have HR0 := Lib.hid hr0; clear hr0
  refine (full_any w0 A ca n K HN.out (HX.out.below hb0) hc hm hb (HT.out.below hb0)).mono ?_
  rintro e w1 ⟨rfl, hb1⟩
  have hB1 := hb0.trans (hb1.mono (by omega))
  have hr1 := (hb1.block w.heap.size (by omega)).trans HR0.out
  have HR1 := Lib.hid hr1; clear hr1
  have hz1 : w.heap.size + 1 ≤ w1.heap.size := by have := hb1.size; omega
  clear hb1 hb0 hz0
  rw [← HFL.out]
  go_wp2_with (first
    | (refine wpList_store_agg (o := ⟨none, _, _, _, _, _⟩) ?_ 51 (.tmp 5) (.tmp 11) ?_ w1.heap.size 0 fl ?_ ?_ 51 _ (heap_alloc_new w1 _) ?_ ?_ HFO.out ?_; rfl; rfl; rfl; rfl; (rw [HFN.out]; kernel_rfl); (rw [HFN.out]; decide); intro w2 hg2 hm2 hs2; obtain ⟨hg2', hb2, hz2⟩ := fresh_store hg2 hm2 hs2 HFN.out; have HG2 := Lib.hid hg2'; clear hg2 hm2 hs2 hg2')
    | (refine wpList_load_agg (o := ⟨some 12, _, _, _, _, _⟩) ?_ 51 (.tmp 5) ?_ w1.heap.size 0 ?_ fl ?_ ?_ ?_ ?_; rfl; rfl; rfl; kernel_rfl; (rw [HFN.out]; kernel_rfl); (intro i v hv; rw [cell_blk HG2.out, Nat.zero_add]; simpa using hv))
    | fail)
  have hB2 := hB1.trans (hb2.mono (by omega))
  have hr2 := (hb2.block w.heap.size (by omega)).trans HR1.out
  have HR2 := Lib.hid hr2; clear hr2
  clear hb2 hB1
  refine (masked_any w2 (fullK K) 0x36 54 fl HFL.out rfl (fullK_length K)).mono ?_
  rintro e w3 ⟨rfl, hb3⟩
  have hB3 := hB2.trans (hb3.mono (by omega))
  have hr3 := (hb3.block w.heap.size (by omega)).trans HR2.out
  have hg3 := (hb3.block w1.heap.size (by omega)).trans HG2.out
  have HR3 := Lib.hid hr3; clear hr3
  have HG3 := Lib.hid hg3; clear hg3
  have hz3 : w1.heap.size + 1 ≤ w3.heap.size := by have := hb3.size; omega
  clear hb3 hB2 HG2 HR2 HR1 HR0 hz2
  rw [← HIL.out]
  go_wp2_with (first
    | (refine wpList_store_agg (o := ⟨none, _, _, _, _, _⟩) ?_ 51 (.tmp 6) (.tmp 13) ?_ w3.heap.size 0 il ?_ ?_ 51 _ (heap_alloc_new w3 _) ?_ ?_ HIO.out ?_; rfl; rfl; rfl; rfl; (rw [HIN.out]; kernel_rfl); (rw [HIN.out]; decide); intro w4 hg4 hm4 hs4; obtain ⟨hg4', hb4, hz4⟩ := fresh_store hg4 hm4 hs4 HIN.out; have hk4 := (hb4.block w1.heap.size (by omega)).trans HG3.out; have HG4 := Lib.hid hg4'; have HK4 := Lib.hid hk4; clear hg4 hm4 hs4 hg4' hk4)
    | (refine wpList_load_agg (o := ⟨some 14, _, _, _, _, _⟩) ?_ 51 (.tmp 5) ?_ w1.heap.size 0 ?_ fl ?_ ?_ ?_ ?_; rfl; rfl; rfl; kernel_rfl; (rw [HFN.out]; kernel_rfl); (intro i v hv; rw [cell_blk HK4.out, Nat.zero_add]; simpa using hv))
    | fail)
  have hB4 := hB3.trans (hb4.mono (by omega))
  have hr4 := (hb4.block w.heap.size (by omega)).trans HR3.out
  have HR4 := Lib.hid hr4; clear hr4
  clear hb4 hB3 HR3 HG3
  refine (masked_any w4 (fullK K) 0x5c 92 fl HFL.out rfl (fullK_length K)).mono ?_
  rintro e w5 ⟨rfl, hb5⟩
  have hB5 := hB4.trans (hb5.mono (by omega))
  have hr5 := (hb5.block w.heap.size (by omega)).trans HR4.out
  have hg5 := (hb5.block w3.heap.size (by omega)).trans HG4.out
  have HR5 := Lib.hid hr5; clear hr5
  have HG5 := Lib.hid hg5; clear hg5
  have hz5 : w3.heap.size + 1 ≤ w5.heap.size := by have := hb5.size; omega
  clear hb5 hB4 HG4 HR4 HK4 hz4
  rw [← HOL.out]
  go_wp2_with (first
    | (refine wpList_store_agg (o := ⟨none, _, _, _, _, _⟩) ?_ 51 (.tmp 7) (.tmp 15) ?_ w5.heap.size 0 ol ?_ ?_ 51 _ (heap_alloc_new w5 _) ?_ ?_ HOO.out ?_; rfl; rfl; rfl; rfl; (rw [HOLN.out]; kernel_rfl); (rw [HOLN.out]; decide); intro w6 hg6 hm6 hs6; obtain ⟨hg6', hb6, hz6⟩ := fresh_store hg6 hm6 hs6 HOLN.out; have hk6 := (hb6.block w3.heap.size (by omega)).trans HG5.out; have HG6 := Lib.hid hg6'; have HK6 := Lib.hid hk6; clear hg6 hm6 hs6 hg6' hk6)
    | fail)
  have hB6 := hB5.trans (hb6.mono (by omega))
  have hr6 := (hb6.block w.heap.size (by omega)).trans HR5.out
  have HR6 := Lib.hid hr6; clear hr6
  clear hb6 hB5 HR5 HG5
  refine (new_any w6).mono ?_
  rintro e w7 ⟨rfl, hi7, hb7⟩
  have hB7 := hB6.trans (hb7.mono (by omega))
  have hr7 := (hb7.block w.heap.size (by omega)).trans HR6.out
  have hi7b := (hb7.block w3.heap.size (by omega)).trans HK6.out
  have ho7 := (hb7.block w5.heap.size (by omega)).trans HG6.out
  have hz7 : w6.heap.size + 1 ≤ w7.heap.size := by have := hi7.lt; omega
  have HR7 := Lib.hid hr7; clear hr7
  have HI7 := Lib.hid hi7; clear hi7
  have HIB := Lib.hid hi7b; clear hi7b
  have HO7 := Lib.hid ho7; clear ho7
  clear hb7 hB6 HR6 HK6 HG6
  go_wp2_with fail
  rw [hz6] at HI7
  have hfin : (maskL (fullK K) 0x36).length = 64 := by rw [maskL_length, fullK_length]
  have hfon : (maskL (fullK K) 0x5c).length = 64 := by rw [maskL_length, fullK_length]
  have hrdi : Rd w7 (some ⟨w3.heap.size, 0, none⟩) ((maskL (fullK K) 0x36).map Bv) := by
    rw [← HIL.out]; intro k v hv; exact ⟨_, 0, rfl, by rw [cell_blk HIB.out, Nat.zero_add]; simpa using hv⟩
  have ht7 := HT.out.below hB7
  have HT7 := Lib.hid ht7; clear ht7
  have HRDI := Lib.hid hrdi; clear hrdi
  have HFI := Lib.hid hfin; clear hfin
  have HFO2 := Lib.hid hfon; clear hfon
  refine (write_parts w7 (w5.heap.size + 1) [] [(some ⟨w3.heap.size, 0, none⟩, 64, maskL (fullK K) 0x36)] #[.slice (some ⟨w3.heap.size, 0, none⟩) 64 64] 1 (maskL (fullK K) 0x36) (by simp [partV, HFI.out]) rfl (by simp [joined])
    (fun q hq => by
      simp only [List.mem_cons, List.not_mem_nil, or_false] at hq
      subst hq
      exact ⟨HRDI.out, by rw [HFI.out]; exact Nat.le_refl _, show (64 : Nat) ≤ 9223372036854775807 by decide⟩) HI7.out (fun q hq k e => by
      simp only [List.mem_cons, List.not_mem_nil, or_false] at hq
      subst hq
      simp at e
      omega) (by rw [HFI.out]; decide) (by decide) HT7.out).mono ?_
  rintro e w8 ⟨rfl, hi8, hm8⟩
  rw [List.nil_append] at hi8
  have hne : w5.heap.size + 1 ≠ 0 := by obtain ⟨R, hr, _⟩ := HI7.out; exact hr.ne_table HT7.out
  have ht8 := AddsMet.moved HT7.out hm8 hne
  have hP7 := HP.out.below hB7
  have hoff := HP.out.off (b := w5.heap.size + 1) (by omega)
  have hP8 := hP7.mv hoff hm8
  have hB8 : Below w.heap.size w w8 := hB7.trans (hm8.belowB (by omega) (fun k hk e => by omega))
  have hr8 := (hm8.block w.heap.size (by omega) (by omega)).trans HR7.out
  have ho8 := (hm8.block w5.heap.size (by omega) (by omega)).trans HO7.out
  have hz8 := hm8.size
  have HI8 := Lib.hid hi8; clear hi8
  have HT8 := Lib.hid ht8; clear ht8
  have HP8 := Lib.hid hP8; clear hP8 hP7
  have HR8 := Lib.hid hr8; clear hr8
  have HO8 := Lib.hid ho8; clear ho8
  have HOFF := Lib.hid hoff; clear hoff
  clear hm8 hB7 HT7 HRDI HIB HR7 HO7 HI7
  go_wp2_with fail
  refine (write_any w8 (w5.heap.size + 1) (maskL (fullK K) 0x36) S cS m P HI8.out HT8.out HPN.out HP8.out HOFF.out (by rw [HFI.out]; omega) hmm).mono ?_
  rintro e w9 ⟨rfl, hi9, hm9⟩
  have ht9 := AddsMet.moved HT8.out hm9 hne
  have hB9 : Below w.heap.size w w9 := hB8.trans (hm9.belowB (by omega) (fun k hk e => by omega))
  have hr9 := (hm9.block w.heap.size (by omega) (by omega)).trans HR8.out
  have ho9 := (hm9.block w5.heap.size (by omega) (by omega)).trans HO8.out
  have hz9 := hm9.size
  have HI9 := Lib.hid hi9; clear hi9
  have HT9 := Lib.hid ht9; clear ht9
  have HR9 := Lib.hid hr9; clear hr9
  have HO9 := Lib.hid ho9; clear ho9
  clear hm9 hB8 HT8 HP8 HR8 HO8 HOFF HI8
  go_wp2_with fail
  refine (hsum_any w9 (w5.heap.size + 1) (maskL (fullK K) 0x36 ++ joined P) HI9.out HT9.out (by rw [List.length_append, HFI.out]; omega)).mono ?_
  rintro e wa ⟨rfl, hba⟩
  have hBa := hB9.trans (hba.mono (by omega))
  have hra := (hba.block w.heap.size (by omega)).trans HR9.out
  have hoa := (hba.block w5.heap.size (by omega)).trans HO9.out
  have hta := HT9.out.below hba
  have hza := hba.size
  have HRA := Lib.hid hra; clear hra
  have HOA := Lib.hid hoa; clear hoa
  have HTA := Lib.hid hta; clear hta
  clear hba hB9 HT9 HR9 HO9 HI9
  obtain ⟨sl, hsl⟩ : ∃ sl, sl = (sha (maskL (fullK K) 0x36 ++ joined P)).map Bv := ⟨_, rfl⟩
  have hsn : sl.length = 32 := by rw [hsl, List.length_map, sha_length]
  have hso : ∀ v ∈ sl, v.oneCell' = true := by rw [hsl]; exact bytes_one _
  unfold sumV
  rw [← hsl]
  have HSL := Lib.hid hsl; clear hsl
  have HSN := Lib.hid hsn; clear hsn
  have HSO := Lib.hid hso; clear hso
  go_wp2_with (first
    | (refine wpList_store_agg (o := ⟨none, _, _, _, _, _⟩) ?_ 25 (.tmp 9) (.tmp 25) ?_ wa.heap.size 0 sl ?_ ?_ 25 _ (heap_alloc_new wa _) ?_ ?_ HSO.out ?_; rfl; rfl; rfl; rfl; (rw [HSN.out]; kernel_rfl); (rw [HSN.out]; decide); intro wb hgb hmb hsb; obtain ⟨hgb', hbb, hzb⟩ := fresh_store hgb hmb hsb HSN.out; have HGB := Lib.hid hgb'; clear hgb hmb hsb hgb')
    | fail)
  have hBb := hBa.trans (hbb.mono (by omega))
  have hrb := (hbb.block w.heap.size (by omega)).trans HRA.out
  have hob := (hbb.block w5.heap.size (by omega)).trans HOA.out
  have htb := HTA.out.below hbb
  have HRB := Lib.hid hrb; clear hrb
  have HOB := Lib.hid hob; clear hob
  have HTB := Lib.hid htb; clear htb
  clear hbb hBa HTA HRA HOA
  obtain ⟨ml, hml⟩ : ∃ ml, ml = (macS K (joined P)).map Bv := ⟨_, rfl⟩
  have hmn : ml.length = 32 := by rw [hml, List.length_map]; exact sha_length _
  have hmo : ∀ v ∈ ml, v.oneCell' = true := by rw [hml]; exact bytes_one _
  have HML := Lib.hid hml; clear hml
  have HMN := Lib.hid hmn; clear hmn
  have HMO := Lib.hid hmo; clear hmo
  have hrdo : Rd wb (some ⟨w5.heap.size, 0, none⟩) ((maskL (fullK K) 0x5c).map Bv) := by
    rw [← HOL.out]; intro k v hv; exact ⟨_, 0, rfl, by rw [cell_blk HOB.out, Nat.zero_add]; simpa using hv⟩
  have hrds : Rd wb (some ⟨wa.heap.size, 0, none⟩) ((sha (maskL (fullK K) 0x36 ++ joined P)).map Bv) := by
    rw [← HSL.out]; intro k v hv; exact ⟨_, 0, rfl, by rw [cell_blk HGB.out, Nat.zero_add]; simpa using hv⟩
  have hsl2 : (sha (maskL (fullK K) 0x36 ++ joined P)).length = 32 := sha_length _
  have hmac : macS K (joined P) = sha (maskL (fullK K) 0x5c ++ sha (maskL (fullK K) 0x36 ++ joined P)) := rfl
  generalize sha (maskL (fullK K) 0x36 ++ joined P) = inner at *
  generalize maskL (fullK K) 0x5c = outer at *
  have hcall := hashSum_parts wb.drew [(some ⟨w5.heap.size, 0, none⟩, 64, outer), (some ⟨wa.heap.size, 0, none⟩, 32, inner)] #[.slice (some ⟨w5.heap.size, 0, none⟩) 64 64, .slice (some ⟨wa.heap.size, 0, none⟩) 32 32] 2 (outer ++ inner) (by simp [partV, HFO2.out, hsl2]) rfl (by simp [joined])
    (fun q hq => by
      simp only [List.mem_cons, List.not_mem_nil, or_false] at hq
      rcases hq with rfl | rfl
      · exact ⟨hrdo, by rw [HFO2.out]; exact Nat.le_refl _, show (64 : Nat) ≤ 9223372036854775807 by decide⟩
      · exact ⟨hrds, by rw [hsl2]; exact Nat.le_refl _, show (32 : Nat) ≤ 9223372036854775807 by decide⟩) (by rw [List.length_append, HFO2.out, hsl2]; decide) (by decide) HTB.out
  rw [← hmac] at hcall
  unfold sumV at hcall
  rw [← HML.out] at hcall
  have HCALL := Lib.hid hcall; clear hcall hrdo hrds hsl2 hmac
  go_still_tail 2, (by kernel_rfl)
  change wpList _ _ _ _ _ wb.drew
  have hBd : Below w.heap.size w wb.drew := hBb.drew
  have hrd : wb.drew.heap[w.heap.size]? = some (.cells (Array.replicate 32 (.int .u8 0)) 25 (0, 0)) := HRB.out
  have HRD := Lib.hid hrd; clear hrd
  have hzd : w.heap.size + 1 ≤ wb.drew.heap.size := show w.heap.size + 1 ≤ wb.heap.size by omega
  clear HTB HRB HOB HGB hBb HSL HSN HSO
  generalize wb.drew = wd at *
  go_wp2_with fail
  refine HCALL.out.mono ?_
  rintro e wc ⟨rfl, hbc⟩
  have hrc := (hbc.block w.heap.size (by omega)).trans HRD.out
  have hBc := hBd.trans (hbc.mono (by omega))
  have HRC := Lib.hid hrc; clear hrc
  clear hbc HCALL HRD
  go_wp2_with (first
    | (refine wpList_store_agg (o := ⟨none, _, _, _, _, _⟩) ?_ 25 (.tmp 4) (.tmp 29) ?_ w.heap.size 0 ml ?_ ?_ 25 _ HRC.out ?_ ?_ HMO.out ?_; rfl; rfl; rfl; rfl; (rw [HMN.out]; kernel_rfl); (rw [HMN.out]; decide); intro wx hgx hmx hsx)
    | fail)
  have hg9 : wx.heap[w.heap.size]? = some (.cells ml.toArray 25 (0, 0)) := by
    rw [hgx]
    congr 2
    simp [spl, splice, HMN.out, List.drop_eq_nil_of_le]
  have HG9 := Lib.hid hg9; clear hg9 hgx
  refine bodyPost_cell rfl w.heap.size 25 ml.toArray rfl HG9.out (by kernel_rfl) (by rw [List.size_toArray, HMN.out]; kernel_rfl) rfl ⟨?_, hBc.trans (hmx.belowB (by have := hBc.size; omega) (fun k hk e => by omega))⟩
  rw [HML.out]
  rfl
end
end
end Go.Proofs.YtgpmghnemhngeaaDoor
