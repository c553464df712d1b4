/-
  Records, plainly: points as what each has more than the one ahead, in bytes, and back; what may be; what follows. Nothing here speaks of the program.
-/
import Derived.Test.YtgogpngobdafaaaDoorTk
import Derived.Test.YtgogpngobdafaaaDoorZg
namespace Go.Proofs.YtgogpngobdafaaaDoor
set_option linter.unusedVariables false
set_option linter.unusedSimpArgs false

/-- A record's point: its series' number, its time, its value, its write. -/
abbrev En := Nat × Int × Nat × Nat
def en0 : En := (0, 0, 0, 0)
def EnOk (x : En) : Prop := x.1 < 4294967296 ∧ -9223372036854775808 ≤ x.2.1 ∧ x.2.1 < 9223372036854775808 ∧ x.2.2.1 < 18446744073709551616 ∧ x.2.2.2 < 18446744073709551616
theorem en0_ok : EnOk en0 := by unfold EnOk en0; decide
/-- A difference modulo 2^64, with a sign. -/
def sd (a b : Int) : Int := (a - b + 9223372036854775808) % 18446744073709551616 - 9223372036854775808
/-- A sum modulo 2^64. -/
def ad (a z : Int) : Nat := ((a + z) % 18446744073709551616).toNat
/-- A number without a sign as one with a sign. -/
def sg (n : Nat) : Int := ((n : Int) + 9223372036854775808) % 18446744073709551616 - 9223372036854775808
theorem sd_range (a b : Int) : -9223372036854775808 ≤ sd a b ∧ sd a b < 9223372036854775808 := by unfold sd; omega
theorem ad_lt (a z : Int) : ad a z < 18446744073709551616 := by unfold ad; omega
theorem sg_range (n : Nat) : -9223372036854775808 ≤ sg n ∧ sg n < 9223372036854775808 := by unfold sg; omega
theorem ad_sd (a b : Int) : (ad b (sd a b) : Int) = a % 18446744073709551616 := by unfold ad sd; omega
theorem ad_sd_nat {a : Nat} {b : Int} (h : a < 18446744073709551616) : ad b (sd (a : Int) b) = a := by have := ad_sd (a : Int) b; omega
theorem sg_ad_sd {a b : Int} (h : -9223372036854775808 ≤ a) (h1 : a < 9223372036854775808) : sg (ad b (sd a b)) = a := by have := ad_sd a b; unfold sg; omega
theorem sd_ad {b z : Int} (h : -9223372036854775808 ≤ z) (h1 : z < 9223372036854775808) : sd (ad b z : Int) b = z := by unfold sd ad; omega
theorem sd_sg {b z : Int} (h : -9223372036854775808 ≤ z) (h1 : z < 9223372036854775808) : sd (sg (ad b z)) b = z := by unfold sd sg ad; omega

/-- So many bytes of a number, the highest first. -/
def bigN : Nat → Nat → Bs
  | 0, _ => []
  | k + 1, v => bigN k (v / 256) ++ [UInt8.ofNat (v % 256)]
theorem bigN_len : ∀ k v, (bigN k v).length = k
  | 0, _ => rfl
  | k + 1, v => by rw [bigN, List.length_append, bigN_len k, List.length_singleton]
theorem bigN_cons : ∀ (k v : Nat), bigN (k + 1) v = UInt8.ofNat (v / 256 ^ k % 256) :: bigN k v
  | 0, v => by simp [bigN]
  | k + 1, v => by
    rw [bigN, bigN_cons k (v / 256), Nat.div_div_eq_div_mul, show 256 * 256 ^ k = 256 ^ (k + 1) by rw [Nat.pow_succ, Nat.mul_comm], List.cons_append]
    rfl
/-- The number of bytes, the highest first. -/
def ofB (b : Bs) : Nat := b.foldl (fun a x => a * 256 + x.toNat) 0
theorem ofB_snoc (b : Bs) (x : UInt8) : ofB (b ++ [x]) = ofB b * 256 + x.toNat := by unfold ofB; rw [List.foldl_append]; rfl
theorem ofB_big : ∀ (k v : Nat), ofB (bigN k v) = v % 256 ^ k
  | 0, v => by simp [bigN, ofB, Nat.mod_one]
  | k + 1, v => by
    rw [bigN, ofB_snoc, ofB_big k]
    have h1 : (UInt8.ofNat (v % 256)).toNat = v % 256 := ofNat_toNat' (by omega)
    rw [h1, show 256 ^ (k + 1) = 256 * 256 ^ k by rw [Nat.pow_succ, Nat.mul_comm], Nat.mod_mul]
    omega
theorem rev_ind {P : Bs → Prop} (h0 : P []) (h1 : ∀ l x, P l → P (l ++ [x])) (l : Bs) : P l := by
  rw [← List.reverse_reverse l]
  induction l.reverse with
  | nil => exact h0
  | cons x r ih => rw [List.reverse_cons]; exact h1 _ _ ih
theorem big_ofB (b : Bs) : bigN b.length (ofB b) = b := by
  refine rev_ind (P := fun b => bigN b.length (ofB b) = b) rfl (fun l x ih => ?_) b
  have hx := x.toNat_lt
  rw [List.length_append, List.length_singleton, bigN, ofB_snoc, show (ofB l * 256 + x.toNat) / 256 = ofB l by omega, show (ofB l * 256 + x.toNat) % 256 = x.toNat by omega, ih]
  simp
theorem ofB_lt (b : Bs) : ofB b < 256 ^ b.length := by
  refine rev_ind (P := fun b => ofB b < 256 ^ b.length) (by decide) (fun l x ih => ?_) b
  have hx := x.toNat_lt
  rw [List.length_append, List.length_singleton, ofB_snoc, Nat.pow_succ]
  omega

/-- A point's bytes behind another one. -/
def entB (p x : En) : Bs := pu (zigN (sd x.1 p.1)) ++ (pu (zigN (sd x.2.1 p.2.1)) ++ (pu (zigN (sd x.2.2.2 p.2.2.2)) ++ bigN 8 x.2.2.1))
def entsB : En → List En → Bs
  | _, [] => []
  | p, x :: l => entB p x ++ entsB x l
def lastE : En → List En → En
  | p, [] => p
  | _, x :: l => lastE x l
theorem entsB_snoc : ∀ (p : En) (l : List En) (x : En), entsB p (l ++ [x]) = entsB p l ++ entB (lastE p l) x
  | p, [], x => by simp [entsB, lastE]
  | p, y :: l, x => by simp only [List.cons_append, entsB, lastE, entsB_snoc y l x, List.append_assoc]
theorem lastE_snoc : ∀ (p : En) (l : List En) (x : En), lastE p (l ++ [x]) = x
  | p, [], x => rfl
  | p, y :: l, x => lastE_snoc y l x

/-- The point that bytes begin with behind another one: what it is, how many bytes it took, what was wrong. -/
def en3 (r : Nat) (t : Int) (s n : Nat) (b : Bs) : En × Nat × Nat := if b.length < 8 then (en0, 0, 6) else ((r, t, ofB (b.take 8), s), n + 8, 0)
def en2 (p : En) (r : Nat) (t : Int) (n : Nat) (b : Bs) : En × Nat × Nat :=
  if (uvS 0 0 b).2.2 ≠ 0 then (en0, 0, (uvS 0 0 b).2.2)
  else if ad p.2.2.2 (zagN (uvS 0 0 b).1) = 0 then (en0, 0, 1)
  else en3 r t (ad p.2.2.2 (zagN (uvS 0 0 b).1)) (n + (uvS 0 0 b).2.1) (b.drop (uvS 0 0 b).2.1)
def en1 (p : En) (r n : Nat) (b : Bs) : En × Nat × Nat :=
  if (uvS 0 0 b).2.2 ≠ 0 then (en0, 0, (uvS 0 0 b).2.2)
  else en2 p r (sg (ad p.2.1 (zagN (uvS 0 0 b).1))) (n + (uvS 0 0 b).2.1) (b.drop (uvS 0 0 b).2.1)
def enAt (p : En) (b : Bs) : En × Nat × Nat :=
  if (uvS 0 0 b).2.2 ≠ 0 then (en0, 0, (uvS 0 0 b).2.2)
  else if ad p.1 (zagN (uvS 0 0 b).1) = 0 ∨ 4294967295 < ad p.1 (zagN (uvS 0 0 b).1) then (en0, 0, 1)
  else en1 p (ad p.1 (zagN (uvS 0 0 b).1)) (uvS 0 0 b).2.1 (b.drop (uvS 0 0 b).2.1)
def ensAt : Nat → En → Bs → List En × Nat × Nat
  | 0, _, _ => ([], 0, 0)
  | k + 1, p, b =>
    if (enAt p b).2.2 ≠ 0 then ([], 0, (enAt p b).2.2)
    else if (ensAt k (enAt p b).1 (b.drop (enAt p b).2.1)).2.2 ≠ 0 then ([], 0, (ensAt k (enAt p b).1 (b.drop (enAt p b).2.1)).2.2)
    else ((enAt p b).1 :: (ensAt k (enAt p b).1 (b.drop (enAt p b).2.1)).1, (enAt p b).2.1 + (ensAt k (enAt p b).1 (b.drop (enAt p b).2.1)).2.1, 0)

theorem uv_zig {d : Int} (h : -9223372036854775808 ≤ d) (h1 : d < 9223372036854775808) (r : Bs) : uvS 0 0 (pu (zigN d) ++ r) = (zigN d, (pu (zigN d)).length, 0) := by
  have hz := zigN_lt d h h1
  have h10 := pu_len 10 (zigN d) (by omega)
  have := uvS_pu (zigN d) 0 0 r (.inl rfl) (by omega) (by simp; omega)
  simpa using this
theorem uv_zig_cut {d : Int} (h : -9223372036854775808 ≤ d) (h1 : d < 9223372036854775808) {i : Nat} (hi : i < (pu (zigN d)).length) : uvS 0 0 ((pu (zigN d)).take i) = (0, 0, 6) := by
  have hz := zigN_lt d h h1
  have h10 := pu_len 10 (zigN d) (by omega)
  exact uvS_cut (zigN d) 0 0 i hi (by omega)
/-- A point that may be. -/
def EnGood (x : En) : Prop := EnOk x ∧ x.1 ≠ 0 ∧ x.2.2.2 ≠ 0
theorem en3_put {r : Nat} {t : Int} {v s n : Nat} (hv : v < 18446744073709551616) (z : Bs) : en3 r t s n (bigN 8 v ++ z) = ((r, t, v, s), n + 8, 0) := by
  unfold en3
  rw [if_neg (by rw [List.length_append, bigN_len]; omega), List.take_left' (bigN_len 8 v), ofB_big, Nat.mod_eq_of_lt (by simpa using hv)]
theorem enAt_put {p x : En} (hx : EnGood x) (z : Bs) : enAt p (entB p x ++ z) = (x, (entB p x).length, 0) := by
  obtain ⟨⟨h1, h2, h3, h4, h5⟩, h6, h7⟩ := hx
  obtain ⟨r, t, v, s⟩ := x
  simp only at h1 h2 h3 h4 h5 h6 h7
  unfold entB enAt
  simp only [List.append_assoc]
  rw [uv_zig (sd_range _ _).1 (sd_range _ _).2]
  simp only
  rw [zag_zig, ad_sd_nat (by omega), if_neg (by simp), if_neg (by omega), List.drop_left]
  unfold en1
  rw [uv_zig (sd_range _ _).1 (sd_range _ _).2]
  simp only
  rw [zag_zig, sg_ad_sd h2 h3, if_neg (by simp), List.drop_left]
  unfold en2
  rw [uv_zig (sd_range _ _).1 (sd_range _ _).2]
  simp only
  rw [zag_zig, ad_sd_nat h5, if_neg (by simp), if_neg h7, List.drop_left, en3_put h4]
  simp only [List.length_append, bigN_len, Nat.add_assoc]
theorem enAt_cut {p x : En} (hx : EnGood x) {i : Nat} (hi : i < (entB p x).length) : enAt p ((entB p x).take i) = (en0, 0, 6) := by
  obtain ⟨⟨h1, h2, h3, h4, h5⟩, h6, h7⟩ := hx
  obtain ⟨r, t, v, s⟩ := x
  simp only at h1 h2 h3 h4 h5 h6 h7
  unfold entB at hi ⊢
  simp only [List.length_append, bigN_len] at hi
  simp only
  have R1 := sd_range (r : Int) (p.1 : Int)
  have R2 := sd_range t p.2.1
  have R3 := sd_range (s : Int) (p.2.2.2 : Int)
  have e1 := ad_sd_nat (a := r) (b := (p.1 : Int)) (by omega)
  have e2 := sg_ad_sd (b := p.2.1) h2 h3
  have e3 := ad_sd_nat (a := s) (b := (p.2.2.2 : Int)) h5
  generalize sd (r : Int) (p.1 : Int) = d1 at *
  generalize sd t p.2.1 = d2 at *
  generalize sd (s : Int) (p.2.2.2 : Int) = d3 at *
  have c1 := fun j (hj : j < (pu (zigN d1)).length) => uv_zig_cut R1.1 R1.2 hj
  have c2 := fun j (hj : j < (pu (zigN d2)).length) => uv_zig_cut R2.1 R2.2 hj
  have c3 := fun j (hj : j < (pu (zigN d3)).length) => uv_zig_cut R3.1 R3.2 hj
  have u1 := uv_zig R1.1 R1.2
  have u2 := uv_zig R2.1 R2.2
  have u3 := uv_zig R3.1 R3.2
  unfold enAt
  by_cases g1 : i < (pu (zigN d1)).length
  · rw [List.take_append_of_le_length (by omega), c1 i g1]; simp
  rw [List.take_append, List.take_of_length_le (by omega), u1]
  simp only
  rw [zag_zig, e1, if_neg (by simp), if_neg (by omega), List.drop_left]
  unfold en1
  by_cases g2 : i - (pu (zigN d1)).length < (pu (zigN d2)).length
  · rw [List.take_append_of_le_length (by omega), c2 _ g2]; simp
  rw [List.take_append, List.take_of_length_le (by omega), u2]
  simp only
  rw [zag_zig, e2, if_neg (by simp), List.drop_left]
  unfold en2
  by_cases g3 : i - (pu (zigN d1)).length - (pu (zigN d2)).length < (pu (zigN d3)).length
  · rw [List.take_append_of_le_length (by omega), c3 _ g3]; simp
  rw [List.take_append, List.take_of_length_le (by omega), u3]
  simp only
  rw [zag_zig, e3, if_neg (by simp), if_neg h7, List.drop_left]
  unfold en3
  rw [if_pos (by rw [List.length_take, bigN_len]; omega)]
theorem en3_form {r : Nat} {t : Int} {s n : Nat} {b : Bs} (h : (en3 r t s n b).2.2 = 0) : 8 ≤ b.length ∧ ∃ v, en3 r t s n b = ((r, t, v, s), n + 8, 0) ∧ bigN 8 v = b.take 8 ∧ v < 18446744073709551616 := by
  unfold en3 at h ⊢
  by_cases h6 : b.length < 8
  · rw [if_pos h6] at h; simp at h
  rw [if_neg h6]
  have ht8 : (b.take 8).length = 8 := by rw [List.length_take]; omega
  have hb8 := big_ofB (b.take 8)
  have hl8 := ofB_lt (b.take 8)
  rw [ht8] at hb8 hl8
  exact ⟨by omega, _, rfl, hb8, by simpa using hl8⟩
theorem en2_form {p : En} {r : Nat} {t : Int} {n : Nat} {b : Bs} (h : (en2 p r t n b).2.2 = 0) : ∃ s v k, en2 p r t n b = ((r, t, v, s), n + k, 0) ∧ pu (zigN (sd s p.2.2.2)) ++ bigN 8 v = b.take k ∧ k ≤ b.length ∧ s < 18446744073709551616 ∧ s ≠ 0 ∧ v < 18446744073709551616 := by
  have F := @pu_form b
  have L := uvS_lt' b
  unfold en2 at h ⊢
  generalize uvS 0 0 b = U at F L h ⊢
  obtain ⟨z, k, e⟩ := U
  simp only at F L h ⊢
  by_cases h4 : e ≠ 0
  · rw [if_pos h4] at h; exact absurd h h4
  rw [if_neg h4] at h ⊢
  obtain ⟨f3, l3⟩ := F (by omega)
  have z3 := zagN_range _ L
  have y3 := zig_zag z
  have s3 := sd_ad (b := (p.2.2.2 : Int)) z3.1 z3.2
  by_cases h5 : ad p.2.2.2 (zagN z) = 0
  · rw [if_pos h5] at h; simp at h
  rw [if_neg h5] at h ⊢
  have g3 := ad_lt (p.2.2.2 : Int) (zagN z)
  obtain ⟨l8, v, e8, b8, v8⟩ := en3_form h
  rw [List.length_drop] at l8
  refine ⟨ad p.2.2.2 (zagN z), v, k + 8, by rw [e8, Nat.add_assoc], ?_, by omega, g3, h5, v8⟩
  rw [s3, y3, f3, b8, take_two]
theorem en1_form {p : En} {r n : Nat} {b : Bs} (h : (en1 p r n b).2.2 = 0) : ∃ t s v k, en1 p r n b = ((r, t, v, s), n + k, 0) ∧ pu (zigN (sd t p.2.1)) ++ (pu (zigN (sd s p.2.2.2)) ++ bigN 8 v) = b.take k ∧ k ≤ b.length ∧ -9223372036854775808 ≤ t ∧ t < 9223372036854775808 ∧ s < 18446744073709551616 ∧ s ≠ 0 ∧ v < 18446744073709551616 := by
  have F := @pu_form b
  have L := uvS_lt' b
  unfold en1 at h ⊢
  generalize uvS 0 0 b = U at F L h ⊢
  obtain ⟨z, k, e⟩ := U
  simp only at F L h ⊢
  by_cases h4 : e ≠ 0
  · rw [if_pos h4] at h; exact absurd h h4
  rw [if_neg h4] at h ⊢
  obtain ⟨f3, l3⟩ := F (by omega)
  have z3 := zagN_range _ L
  have y3 := zig_zag z
  have s3 := sd_sg (b := p.2.1) z3.1 z3.2
  have g3 := sg_range (ad p.2.1 (zagN z))
  obtain ⟨s, v, m, e2, b2, m2, r1, r2, r3⟩ := en2_form h
  rw [List.length_drop] at m2
  refine ⟨sg (ad p.2.1 (zagN z)), s, v, k + m, by rw [e2, Nat.add_assoc], ?_, by omega, g3.1, g3.2, r1, r2, r3⟩
  rw [s3, y3, f3, b2, take_two]
theorem enAt_form {p : En} {b : Bs} (h : (enAt p b).2.2 = 0) : entB p (enAt p b).1 = b.take (enAt p b).2.1 ∧ (enAt p b).2.1 ≤ b.length ∧ EnGood (enAt p b).1 := by
  have F := @pu_form b
  have L := uvS_lt' b
  unfold enAt at h ⊢
  generalize uvS 0 0 b = U at F L h ⊢
  obtain ⟨z, k, e⟩ := U
  simp only at F L h ⊢
  by_cases h4 : e ≠ 0
  · rw [if_pos h4] at h; exact absurd h h4
  rw [if_neg h4] at h ⊢
  obtain ⟨f3, l3⟩ := F (by omega)
  have z3 := zagN_range _ L
  have y3 := zig_zag z
  have s3 := sd_ad (b := (p.1 : Int)) z3.1 z3.2
  by_cases h5 : ad p.1 (zagN z) = 0 ∨ 4294967295 < ad p.1 (zagN z)
  · rw [if_pos h5] at h; simp at h
  rw [if_neg h5] at h ⊢
  obtain ⟨t, s, v, m, e2, b2, m2, r1, r2, r3, r4, r5⟩ := en1_form h
  rw [List.length_drop] at m2
  rw [e2]
  refine ⟨?_, by simp only; omega, ⟨?_, r1, r2, r5, r3⟩, ?_, r4⟩
  · unfold entB
    simp only
    rw [s3, y3, f3, b2, take_two]
  · simp only; omega
  · simp only; omega
theorem enAt_le (p : En) (b : Bs) : (enAt p b).2.1 ≤ b.length := by
  by_cases h : (enAt p b).2.2 = 0
  · exact (enAt_form h).2.1
  · unfold enAt at h ⊢
    split
    · exact Nat.zero_le _
    rename_i g1
    rw [if_neg g1] at h
    split
    · exact Nat.zero_le _
    rename_i g2
    rw [if_neg g2] at h
    unfold en1 at h ⊢
    split
    · exact Nat.zero_le _
    rename_i g3
    rw [if_neg g3] at h
    unfold en2 at h ⊢
    split
    · exact Nat.zero_le _
    rename_i g4
    rw [if_neg g4] at h
    split
    · exact Nat.zero_le _
    rename_i g5
    rw [if_neg g5] at h
    unfold en3 at h ⊢
    split
    · exact Nat.zero_le _
    · rename_i g6; rw [if_neg g6] at h; simp at h
theorem ensAt_put : ∀ (l : List En) (p : En) (z : Bs), (∀ x ∈ l, EnGood x) → ensAt l.length p (entsB p l ++ z) = (l, (entsB p l).length, 0)
  | [], p, z, _ => rfl
  | x :: l, p, z, h => by
    have h1 := enAt_put (p := p) (h x List.mem_cons_self) (entsB x l ++ z)
    have h2 := ensAt_put l x z (fun y hy => h y (List.mem_cons_of_mem _ hy))
    simp only [entsB, List.length_cons, List.append_assoc]
    rw [ensAt, h1]
    simp only
    rw [List.drop_left, h2]
    simp
theorem ensAt_cut : ∀ (l : List En) (p : En) (i : Nat), (∀ x ∈ l, EnGood x) → i < (entsB p l).length → ensAt l.length p ((entsB p l).take i) = ([], 0, 6)
  | [], p, i, _, hi => by simp [entsB] at hi
  | x :: l, p, i, h, hi => by
    have hx := h x List.mem_cons_self
    simp only [entsB, List.length_append] at hi
    simp only [entsB, List.length_cons]
    by_cases g : i < (entB p x).length
    · rw [List.take_append_of_le_length (by omega), ensAt, enAt_cut hx g]; simp
    · rw [List.take_append, List.take_of_length_le (by omega), ensAt, enAt_put hx]
      simp only
      rw [List.drop_left, ensAt_cut l x _ (fun y hy => h y (List.mem_cons_of_mem _ hy)) (by omega)]
      simp
theorem ensAt_form : ∀ (k : Nat) (p : En) (b : Bs), (ensAt k p b).2.2 = 0 → entsB p (ensAt k p b).1 = b.take (ensAt k p b).2.1 ∧ (ensAt k p b).1.length = k ∧ (ensAt k p b).2.1 ≤ b.length ∧ ∀ x ∈ (ensAt k p b).1, EnGood x
  | 0, p, b, _ => ⟨by simp [ensAt, entsB], rfl, Nat.zero_le _, fun x hx => by simp [ensAt] at hx⟩
  | k + 1, p, b, h => by
    have hf := @enAt_form p b
    have ih := ensAt_form k (enAt p b).1 (b.drop (enAt p b).2.1)
    rw [ensAt] at h ⊢
    by_cases h1 : (enAt p b).2.2 ≠ 0
    · rw [if_pos h1] at h; exact absurd h h1
    rw [if_neg h1] at h ⊢
    by_cases h2 : (ensAt k (enAt p b).1 (b.drop (enAt p b).2.1)).2.2 ≠ 0
    · rw [if_pos h2] at h; exact absurd h h2
    rw [if_neg h2]
    obtain ⟨f1, f2, f3⟩ := hf (by omega)
    obtain ⟨i1, i2, i3, i4⟩ := ih (by omega)
    rw [List.length_drop] at i3
    refine ⟨?_, by simp only [List.length_cons]; omega, by simp only; omega, ?_⟩
    · simp only [entsB]
      rw [f1, i1, take_two]
    · intro x hx
      rcases List.mem_cons.1 hx with rfl | hx
      · exact f3
      · exact i4 x hx
theorem ensAt_le (k : Nat) (p : En) (b : Bs) : (ensAt k p b).2.1 ≤ b.length ∧ (ensAt k p b).1.length ≤ k := by
  by_cases h : (ensAt k p b).2.2 = 0
  · have := ensAt_form k p b h; exact ⟨this.2.2.1, by omega⟩
  · cases k with
    | zero => simp [ensAt] at h
    | succ k =>
      rw [ensAt] at h ⊢
      split
      · exact ⟨Nat.zero_le _, Nat.zero_le _⟩
      · rename_i g; rw [if_neg g] at h
        split
        · exact ⟨Nat.zero_le _, Nat.zero_le _⟩
        · rename_i g2; rw [if_neg g2] at h; simp at h
theorem ensAt_none (k : Nat) (p : En) (b : Bs) (h : (ensAt k p b).2.2 ≠ 0) : (ensAt k p b).1 = [] ∧ (ensAt k p b).2.1 = 0 := by
  cases k with
  | zero => simp [ensAt] at h
  | succ k =>
    rw [ensAt] at h ⊢
    split
    · exact ⟨rfl, rfl⟩
    · rename_i g; rw [if_neg g] at h
      split
      · exact ⟨rfl, rfl⟩
      · rename_i g2; rw [if_neg g2] at h; simp at h

/-- A record: its kind, its number, its labels, its points. -/
abbrev Rp := Int × Nat × List Lb × List En
def rp0 : Rp := (0, 0, [], [])
/-- What is wrong with a record. -/
def checkR (x : Rp) : Nat :=
  if x.1 = 1 then (if x.2.1 = 0 ∨ 0 < x.2.2.2.length then 1 else rightP x.2.2.1)
  else if x.1 = 2 then (if 0 < x.2.1 ∨ 0 < x.2.2.1.length then 1 else if x.2.2.2.length = 0 then 1 else if 256 < x.2.2.2.length then 3 else if x.2.2.2.any (fun e => decide (e.1 = 0) || decide (e.2.2.2 = 0)) then 1 else 0)
  else 130
/-- A record's bytes, if nothing is wrong with it. -/
def rowR (x : Rp) : Bs := if x.1 = 1 then 1 :: (pu x.2.1 ++ (pu x.2.2.1.length ++ labBytes x.2.2.1)) else 2 :: (pu x.2.2.2.length ++ entsB en0 x.2.2.2)
def putR (x : Rp) : Nat × Bs := if checkR x ≠ 0 then (checkR x, []) else (0, rowR x)
/-- The record that bytes are, behind the first one. -/
def serR (b : Bs) : Rp × Nat :=
  if (uvS 0 0 b).2.2 ≠ 0 then (rp0, (uvS 0 0 b).2.2)
  else if (uvS 0 0 b).1 = 0 ∨ 4294967295 < (uvS 0 0 b).1 then (rp0, 1)
  else if (takeP (b.drop (uvS 0 0 b).2.1)).2.2 ≠ 0 then (rp0, (takeP (b.drop (uvS 0 0 b).2.1)).2.2)
  else if (uvS 0 0 b).2.1 + (takeP (b.drop (uvS 0 0 b).2.1)).2.1 < b.length then (rp0, 8)
  else ((1, (uvS 0 0 b).1, (takeP (b.drop (uvS 0 0 b).2.1)).1, []), 0)
def ptsR (b : Bs) : Rp × Nat :=
  if (uvS 0 0 b).2.2 ≠ 0 then (rp0, (uvS 0 0 b).2.2)
  else if 256 < (uvS 0 0 b).1 then (rp0, 3)
  else if (uvS 0 0 b).1 = 0 then (rp0, 1)
  else if (ensAt (uvS 0 0 b).1 en0 (b.drop (uvS 0 0 b).2.1)).2.2 ≠ 0 then (rp0, (ensAt (uvS 0 0 b).1 en0 (b.drop (uvS 0 0 b).2.1)).2.2)
  else if (uvS 0 0 b).2.1 + (ensAt (uvS 0 0 b).1 en0 (b.drop (uvS 0 0 b).2.1)).2.1 < b.length then (rp0, 8)
  else ((2, 0, [], (ensAt (uvS 0 0 b).1 en0 (b.drop (uvS 0 0 b).2.1)).1), 0)
def takeR : Bs → Rp × Nat
  | [] => (rp0, 6)
  | k :: b => if k.toNat = 1 then serR b else if k.toNat = 2 then ptsR b else (rp0, 130)

theorem uv_nat {n : Nat} (h : n < 18446744073709551616) (r : Bs) : uvS 0 0 (pu n ++ r) = (n, (pu n).length, 0) := by
  have h10 := pu_len 10 n (by omega)
  have := uvS_pu n 0 0 r (.inl rfl) (by omega) (by simp; omega)
  simpa using this
theorem uv_nat_cut {n : Nat} (h : n < 18446744073709551616) {i : Nat} (hi : i < (pu n).length) : uvS 0 0 ((pu n).take i) = (0, 0, 6) := by
  have h10 := pu_len 10 n (by omega)
  exact uvS_cut n 0 0 i hi (by omega)
theorem check_one {x : Rp} (h1 : x.1 = 1) (h : checkR x = 0) : x.2.1 ≠ 0 ∧ x.2.2.2 = [] ∧ rightP x.2.2.1 = 0 := by
  unfold checkR at h
  rw [if_pos h1] at h
  split at h
  · cases h
  · rename_i g
    refine ⟨by omega, List.eq_nil_of_length_eq_zero (by omega), h⟩
theorem check_two {x : Rp} (h1 : x.1 ≠ 1) (h : checkR x = 0) : x.1 = 2 ∧ x.2.1 = 0 ∧ x.2.2.1 = [] ∧ 0 < x.2.2.2.length ∧ x.2.2.2.length ≤ 256 ∧ ∀ e ∈ x.2.2.2, e.1 ≠ 0 ∧ e.2.2.2 ≠ 0 := by
  unfold checkR at h
  rw [if_neg h1] at h
  split at h
  · rename_i h2
    split at h
    · cases h
    split at h
    · cases h
    split at h
    · cases h
    split at h
    · cases h
    rename_i g1 g2 g3 g4
    refine ⟨h2, by omega, List.eq_nil_of_length_eq_zero (by omega), by omega, by omega, fun e he => ?_⟩
    rw [Bool.not_eq_true, List.any_eq_false] at g4
    have := g4 e he
    simpa using this
  · cases h
theorem check_small {x : Rp} (h : checkR x = 0) : x.2.2.1.length ≤ 16 ∧ x.2.2.2.length ≤ 256 := by
  by_cases h1 : x.1 = 1
  · obtain ⟨-, e, hr⟩ := check_one h1 h
    rw [e]; exact ⟨(right_small hr).2, by simp⟩
  · obtain ⟨-, -, e, -, hl, -⟩ := check_two h1 h
    rw [e]; exact ⟨by simp, hl⟩
/-- A record whose parts are numbers of their kinds. -/
def RpOk (x : Rp) : Prop := x.2.1 < 4294967296 ∧ ∀ e ∈ x.2.2.2, EnOk e
theorem takeR_put {x : Rp} (hx : RpOk x) (h : checkR x = 0) : takeR (rowR x) = (x, 0) := by
  unfold rowR
  by_cases h1 : x.1 = 1
  · obtain ⟨hr, hp, hrt⟩ := check_one h1 h
    obtain ⟨hsm, h16⟩ := right_small hrt
    rw [if_pos h1]
    unfold takeR
    simp only
    rw [if_pos (by rfl)]
    unfold serR
    have ht := takeP_put hrt hsm h16 []
    rw [List.append_nil] at ht
    rw [uv_nat (by have := hx.1; omega)]
    simp only
    rw [if_neg (by simp), if_neg (by have := hx.1; omega), List.drop_left, ht]
    simp only
    rw [if_neg (by simp), if_neg (by simp only [List.length_append]; omega)]
    obtain ⟨a, b, c, d⟩ := x
    simp only at h1 hp ⊢
    rw [h1, hp]
  · obtain ⟨h2, hr, hl, hp0, hp1, hg⟩ := check_two h1 h
    rw [if_neg h1]
    unfold takeR
    simp only
    rw [if_neg (by decide), if_pos (by rfl)]
    unfold ptsR
    have ht := ensAt_put x.2.2.2 en0 [] (fun e he => ⟨hx.2 e he, hg e he⟩)
    rw [List.append_nil] at ht
    rw [uv_nat (by omega)]
    simp only
    rw [if_neg (by simp), if_neg (by omega), if_neg (by omega), List.drop_left, ht]
    simp only
    rw [if_neg (by simp), if_neg (by simp only [List.length_append]; omega)]
    obtain ⟨a, b, c, d⟩ := x
    simp only at h2 hr hl ⊢
    rw [h2, hr, hl]
theorem takeR_more {x : Rp} (hx : RpOk x) (h : checkR x = 0) {z : Bs} (hz : 0 < z.length) : takeR (rowR x ++ z) = (rp0, 8) := by
  unfold rowR
  by_cases h1 : x.1 = 1
  · obtain ⟨hr, hp, hrt⟩ := check_one h1 h
    obtain ⟨hsm, h16⟩ := right_small hrt
    rw [if_pos h1, List.cons_append]
    unfold takeR
    simp only
    rw [if_pos (by rfl)]
    unfold serR
    have ht := takeP_put hrt hsm h16 z
    rw [List.append_assoc, uv_nat (by have := hx.1; omega)]
    simp only
    rw [if_neg (by simp), if_neg (by have := hx.1; omega), List.drop_left, ht]
    simp only
    rw [if_neg (by simp), if_pos (by simp only [List.length_append]; omega)]
  · obtain ⟨h2, hr, hl, hp0, hp1, hg⟩ := check_two h1 h
    rw [if_neg h1, List.cons_append]
    unfold takeR
    simp only
    rw [if_neg (by decide), if_pos (by rfl)]
    unfold ptsR
    have ht := ensAt_put x.2.2.2 en0 z (fun e he => ⟨hx.2 e he, hg e he⟩)
    rw [List.append_assoc, uv_nat (by omega)]
    simp only
    rw [if_neg (by simp), if_neg (by omega), if_neg (by omega), List.drop_left, ht]
    simp only
    rw [if_neg (by simp), if_pos (by simp only [List.length_append]; omega)]
theorem takeR_cut {x : Rp} (hx : RpOk x) (h : checkR x = 0) {i : Nat} (hi : i < (rowR x).length) : takeR ((rowR x).take i) = (rp0, 6) := by
  unfold rowR at hi ⊢
  cases i with
  | zero => rw [List.take_zero]; rfl
  | succ i =>
  by_cases h1 : x.1 = 1
  · obtain ⟨hr, hp, hrt⟩ := check_one h1 h
    obtain ⟨hsm, h16⟩ := right_small hrt
    rw [if_pos h1] at hi ⊢
    rw [List.take_succ_cons]
    rw [List.length_cons, List.length_append] at hi
    try rw [List.length_append] at hi
    unfold takeR
    simp only
    rw [if_pos (by rfl)]
    unfold serR
    by_cases g : i < (pu x.2.1).length
    · rw [List.take_append_of_le_length (by omega), uv_nat_cut (by have := hx.1; omega) g]; simp
    · rw [List.take_append, List.take_of_length_le (by omega), uv_nat (by have := hx.1; omega)]
      simp only
      rw [if_neg (by simp), if_neg (by have := hx.1; omega), List.drop_left, takeP_cut hsm h16 (by rw [List.length_append]; omega)]
      simp
  · obtain ⟨h2, hr, hl, hp0, hp1, hg⟩ := check_two h1 h
    rw [if_neg h1] at hi ⊢
    rw [List.take_succ_cons]
    rw [List.length_cons, List.length_append] at hi
    try rw [List.length_append] at hi
    unfold takeR
    simp only
    rw [if_neg (by decide), if_pos (by rfl)]
    unfold ptsR
    by_cases g : i < (pu x.2.2.2.length).length
    · rw [List.take_append_of_le_length (by omega), uv_nat_cut (by omega) g]; simp
    · rw [List.take_append, List.take_of_length_le (by omega), uv_nat (by omega)]
      simp only
      rw [if_neg (by simp), if_neg (by omega), if_neg (by omega), List.drop_left, ensAt_cut _ _ _ (fun e he => ⟨hx.2 e he, hg e he⟩) (by omega)]
      simp
theorem takeR_form {b : Bs} (h : (takeR b).2 = 0) : putR (takeR b).1 = (0, b) ∧ RpOk (takeR b).1 := by
  cases b with
  | nil => simp [takeR] at h
  | cons k b =>
  unfold takeR at h ⊢
  simp only at h ⊢
  by_cases k1 : k.toNat = 1
  · rw [if_pos k1] at h ⊢
    have hk : k = 1 := UInt8.toNat_inj.1 (by rw [k1]; rfl)
    subst hk
    unfold serR at h ⊢
    have F := @pu_form b
    by_cases h1 : (uvS 0 0 b).2.2 ≠ 0
    · rw [if_pos h1] at h; exact absurd h h1
    rw [if_neg h1] at h ⊢
    obtain ⟨f1, l1⟩ := F (by omega)
    by_cases h2 : (uvS 0 0 b).1 = 0 ∨ 4294967295 < (uvS 0 0 b).1
    · rw [if_pos h2] at h; simp at h
    rw [if_neg h2] at h ⊢
    have G := @takeP_form (b.drop (uvS 0 0 b).2.1)
    by_cases h3 : (takeP (b.drop (uvS 0 0 b).2.1)).2.2 ≠ 0
    · rw [if_pos h3] at h; exact absurd h h3
    rw [if_neg h3] at h ⊢
    obtain ⟨g1, g2⟩ := G (by omega)
    by_cases h4 : (uvS 0 0 b).2.1 + (takeP (b.drop (uvS 0 0 b).2.1)).2.1 < b.length
    · rw [if_pos h4] at h; simp at h
    rw [if_neg h4]
    rw [List.length_drop] at g2
    generalize (uvS 0 0 b).1 = n at *
    generalize (uvS 0 0 b).2.1 = k1 at *
    clear G h h3
    generalize takeP (b.drop k1) = U at g1 g2 h4 ⊢
    obtain ⟨l, m, er⟩ := U
    simp only at g1 g2 h4 ⊢
    have hr : rightP l = 0 := by
      unfold bytesP at g1
      by_cases hr : rightP l ≠ 0
      · rw [if_pos hr] at g1; exact (Prod.mk.inj g1).1
      · omega
    have hb : pu l.length ++ labBytes l = (b.drop k1).take m := by
      unfold bytesP at g1
      rw [if_neg (by omega)] at g1
      injection g1
    have hc : checkR (1, n, l, []) = 0 := by unfold checkR; rw [if_pos rfl, if_neg (by simp only [List.length_nil]; omega)]; exact hr
    refine ⟨?_, by simp only; omega, fun e he => by simp at he⟩
    unfold putR
    rw [if_neg (by omega)]
    unfold rowR
    rw [if_pos rfl]
    simp only
    rw [hb, f1, take_two, List.take_of_length_le (by omega)]
  · rw [if_neg k1] at h ⊢
    by_cases k2 : k.toNat = 2
    · rw [if_pos k2] at h ⊢
      have hk : k = 2 := UInt8.toNat_inj.1 (by rw [k2]; rfl)
      subst hk
      unfold ptsR at h ⊢
      have F := @pu_form b
      by_cases h1 : (uvS 0 0 b).2.2 ≠ 0
      · rw [if_pos h1] at h; exact absurd h h1
      rw [if_neg h1] at h ⊢
      obtain ⟨f1, l1⟩ := F (by omega)
      by_cases h2 : 256 < (uvS 0 0 b).1
      · rw [if_pos h2] at h; simp at h
      rw [if_neg h2] at h ⊢
      by_cases h3 : (uvS 0 0 b).1 = 0
      · rw [if_pos h3] at h; simp at h
      rw [if_neg h3] at h ⊢
      have G := ensAt_form (uvS 0 0 b).1 en0 (b.drop (uvS 0 0 b).2.1)
      by_cases h4 : (ensAt (uvS 0 0 b).1 en0 (b.drop (uvS 0 0 b).2.1)).2.2 ≠ 0
      · rw [if_pos h4] at h; exact absurd h h4
      rw [if_neg h4] at h ⊢
      obtain ⟨g1, g2, g3, g4⟩ := G (by omega)
      by_cases h5 : (uvS 0 0 b).2.1 + (ensAt (uvS 0 0 b).1 en0 (b.drop (uvS 0 0 b).2.1)).2.1 < b.length
      · rw [if_pos h5] at h; simp at h
      rw [if_neg h5]
      rw [List.length_drop] at g3
      generalize (uvS 0 0 b).1 = n at *
      generalize (uvS 0 0 b).2.1 = k1 at *
      clear G h h4
      generalize ensAt n en0 (b.drop k1) = U at g1 g2 g3 g4 h5 ⊢
      obtain ⟨l, m, er⟩ := U
      simp only at g1 g2 g3 g4 h5 ⊢
      have hany : l.any (fun e => decide (e.1 = 0) || decide (e.2.2.2 = 0)) = false := by
        rw [List.any_eq_false]
        intro e he
        have := g4 e he
        simp [this.2.1, this.2.2]
      have hc : checkR (2, 0, [], l) = 0 := by
        unfold checkR
        rw [if_neg (show ¬ (2 : Int) = 1 by decide), if_pos rfl, if_neg (by simp), if_neg (by simp only; omega), if_neg (by simp only; omega), if_neg (by simp only; rw [hany]; decide)]
      refine ⟨?_, by simp, fun e he => (g4 e he).1⟩
      unfold putR
      rw [if_neg (by omega)]
      unfold rowR
      rw [if_neg (show ¬ (2 : Int) = 1 by decide)]
      simp only
      rw [g2, f1, g1, take_two, List.take_of_length_le (by omega)]
    · rw [if_neg k2] at h; simp at h
end Go.Proofs.YtgogpngobdafaaaDoor
