/-
  RecsDecodes: the walk.
-/
import Derived.Test.YtfodpeiecmbojaaH7
namespace Go.Proofs.Ytfodpeiecmbojaa
open Go.RowKit Go.Deep PureCrc

set_option maxRecDepth 100000 in
set_option maxHeartbeats 8000000 in
theorem decodes_law (kind place : Int) (hp : I64 place) (sa : Option Addr) (n c : Nat) (l : List Nat) (w : World) (h : Came w sa n c l) (hn : n ≤ 140737488352000) :
    Calls Try.prog 7 #[.int .i64 kind, .int .i64 place, .slice sa n c] w fun e w' => e = .returned (.bool true) ∧ Touch [] w w' := by
  have hl := h.len
  have hlt := h.lt
  obtain ⟨er, m, ws, hm, hwl, E1, R1⟩ := dec_pair kind place hp n l hl hlt
  have P3 := hid (fun (l2 : List Nat) (h1 : l2.length = n) (h2 : ∀ x ∈ l2, x < 256) => dec_pair kind place hp n l2 h1 h2)
  have CW : Hid (∀ W, Touch [] w W → Came W sa n c l) := fun W ht => h.touch ht (by simp)
  have HE1 := hid E1
  have HR1 := hid R1
  have HL := hid hl
  have HLT := hid hlt
  have HWL := hid hwl
  have A1 := hid (bytes_any h (by omega))
  clear h E1 R1 hp hl hlt hwl
  go_enter Try.func7, Try.ntmps7
  go_wp2_with fail
  with_reducible refine A1.out.mono ?_
  rintro e w1 ⟨sf, rfl, f1, t1⟩
  obtain ⟨gf, cf, rfl, hgf, hgl, hcf, hrf⟩ := f1.rd (by simp)
  have hlen3 : (l ++ [111, 112, 113]).length = n + 3 := by rw [List.length_append, HL.out]; rfl
  rw [hlen3] at f1 hcf ⊢
  have T1 := hid t1
  have F1 := hid f1
  have HRF := hid hrf
  have HGF := hid hgf
  have HGL := hid hgl
  have hcf' : n ≤ cf := by omega
  have r8 : WRow (w1.alloc (.cells #[.int .u64 1, .int .u64 2, .int .u64 3, .int .u64 4, .int .u64 5, .int .u64 6, .int .u64 7, .int .u64 8] 28)) w1.heap.size two := heap_alloc_new w1 _
  have RE : Hid (Calls Try.prog 16 #[.int .i64 3, .int .i64 4, .slice (some ⟨w1.heap.size, 0, none⟩) 2 2, .int .i64 96] (w1.alloc (.cells #[.int .u64 1, .int .u64 2, .int .u64 3, .int .u64 4, .int .u64 5, .int .u64 6, .int .u64 7, .int .u64 8] 28)) fun e w' => ∃ sv, e = .returned (.tuple #[sv, .int .i64 0]) ∧ OwnB w' (w1.heap.size + 1) sv encF ∧ Touch [] (w1.alloc (.cells #[.int .u64 1, .int .u64 2, .int .u64 3, .int .u64 4, .int .u64 5, .int .u64 6, .int .u64 7, .int .u64 8] 28)) w') := by
    have hh := rencode_ok 3 4 2 96 two w1.heap.size 0 2 _ r8.wd rfl (lt_of_block r8) (by decide) (by omega) (by omega) (by omega) (by omega) (by omega) (by omega) (by omega) (by omega)
    have hs : (w1.alloc (.cells #[.int .u64 1, .int .u64 2, .int .u64 3, .int .u64 4, .int .u64 5, .int .u64 6, .int .u64 7, .int .u64 8] 28)).heap.size = w1.heap.size + 1 := by simp
    rw [hs] at hh
    exact hh
  have TA := hid (show Touch [] w1 (w1.alloc (.cells #[.int .u64 1, .int .u64 2, .int .u64 3, .int .u64 4, .int .u64 5, .int .u64 6, .int .u64 7, .int .u64 8] 28)) from (Touch.refl _ _).alloc _)
  clear f1 t1 hrf A1 hgf hgl hcf hlen3 r8
  go_wp2_with fail
  with_reducible refine RE.out.mono ?_
  rintro e w2 ⟨xf, rfl, o2, t2⟩
  obtain ⟨gx, cx, rfl, _, hgx, hcx, hrx⟩ := o2.rd (by rw [show encF.length = 96 from enc_length (by decide)]; omega)
  have hl96 : encF.length = 96 := enc_length (by decide)
  rw [hl96] at hcx ⊢
  have U2 := hid (TA.out.trans t2 (by simp))
  have FC : Hid (∀ W, Touch [] w1 W → Came W (some ⟨gf, 0, none⟩) n cf l) := fun W ht => front_came (HRF.out.touch ht HGL.out (by simp)) (Nat.lt_of_lt_of_le HGL.out ht.size) HL.out hcf' HLT.out
  have DF : Hid (∀ W, Touch [] w2 W → Calls Try.prog 9 #[.int .i64 3, .int .i64 4, .slice (some ⟨gx, 0, none⟩) 96 cx] W fun e w' => ∃ sv, e = .returned (.tuple #[sv, .int .i64 0]) ∧ OwnR w' W.heap.size sv 2 two ∧ Touch [] W w') := fun W ht => dec_fixed W gx cx (hrx.touch ht hgx (by simp)) (Nat.lt_of_lt_of_le hgx ht.size) hcx
  clear o2 t2 hrx TA RE hl96 hgx hcx
  go_wp2_with fail
  -- x
  with_reducible refine (HE1.out w2 _ cf (FC.out w2 U2.out)).mono ?_
  rintro e w3 ⟨x, rfl, ox, t3⟩
  have OX := hid ox
  have V3 := hid t3
  have U3 := hid (U2.out.trans t3 (by simp))
  clear ox t3
  go_wp2_with fail
  -- y
  with_reducible refine (HE1.out w3 _ cf (FC.out w3 U3.out)).mono ?_
  rintro e w4 ⟨y, rfl, oy, t4⟩
  have OY := hid oy
  have V4 := hid t4
  have U4 := hid (U3.out.trans t4 (by simp))
  clear oy t4
  go_wp2_with fail
  -- z
  with_reducible refine (DF.out w4 (V3.out.trans V4.out (by simp))).mono ?_
  rintro e w5 ⟨z, rfl, oz, t5⟩
  have OZ := hid oz
  have V5 := hid t5
  have U5 := hid (U4.out.trans t5 (by simp))
  clear oz t5
  go_wp2_with fail
  -- k
  with_reducible refine (HR1.out w5 _ c (CW.out w5 (T1.out.trans U5.out (by simp)))).mono ?_
  rintro e w6 ⟨kv, rfl, ok, t6⟩
  have OK := hid ok
  have V6 := hid t6
  have U6 := hid (U5.out.trans t6 (by simp))
  clear ok t6
  go_wp2_with fail
  have r7 : WRow (w6.alloc (.cells #[.int .u64 1, .int .u64 2, .int .u64 3, .int .u64 4, .int .u64 5, .int .u64 6, .int .u64 7, .int .u64 8] 28)) w6.heap.size two := heap_alloc_new w6 _
  have t7 : Touch [] w6 (w6.alloc (.cells #[.int .u64 1, .int .u64 2, .int .u64 3, .int .u64 4, .int .u64 5, .int .u64 6, .int .u64 7, .int .u64 8] 28)) := (Touch.refl _ _).alloc _
  generalize w6.alloc (.cells #[.int .u64 1, .int .u64 2, .int .u64 3, .int .u64 4, .int .u64 5, .int .u64 6, .int .u64 7, .int .u64 8] 28) = w7 at r7 t7 ⊢
  have LX : Hid (∀ k, x.ownBlock = some k → w2.heap.size ≤ k ∧ k < w3.heap.size) := fun k hk => OX.out.lt k hk
  have LY : Hid (∀ k, y.ownBlock = some k → w3.heap.size ≤ k ∧ k < w4.heap.size) := fun k hk => OY.out.lt k hk
  have LZ : Hid (∀ k, z.ownBlock = some k → w4.heap.size ≤ k ∧ k < w5.heap.size) := fun k hk => OZ.out.lt k hk
  have LK : Hid (∀ k, kv.ownBlock = some k → w5.heap.size ≤ k ∧ k < w6.heap.size) := fun k hk => OK.out.lt k hk
  have v67 := t7
  have v57 : Touch [] w5 w7 := V6.out.trans v67 (by simp)
  have v47 : Touch [] w4 w7 := V5.out.trans v57 (by simp)
  have v37 : Touch [] w3 w7 := V4.out.trans v47 (by simp)
  have OX7 := hid (show OwnR w7 w2.heap.size x m ws from OX.out.touch v37 (by simp))
  have OY7 := hid (show OwnR w7 w3.heap.size y m ws from OY.out.touch v47 (by simp))
  have OZ7 := hid (show OwnR w7 w4.heap.size z 2 two from OZ.out.touch v57 (by simp))
  have OK7 := hid (show OwnR w7 w5.heap.size kv m ws from OK.out.touch v67 (by simp))
  have R7 := hid r7
  have U7 := hid (U6.out.trans v67 (by simp))
  have HSS := hid (And.intro U2.out.size (And.intro V3.out.size (And.intro V4.out.size (And.intro V5.out.size (And.intro V6.out.size v67.size)))))
  obtain ⟨sx, cx', ex, _, _⟩ := OX7.out.shape
  obtain ⟨sy, cy', ey, _, _⟩ := OY7.out.shape
  obtain ⟨sz, cz', ez, _, _⟩ := OZ7.out.shape
  obtain ⟨sk, ck', ek, _, _⟩ := OK7.out.shape
  subst ex ey ez ek
  have RS : Hid (∀ (F : List Nat) (W : World) (v : Value) (q : Nat) (us : List Nat) (B : Nat) (sq : Option Addr) (cq : Nat), v = .slice sq q cq → OwnR w7 B v q us → Touch F w7 W → (∀ k, v.ownBlock = some k → k ∉ F) → Rs W sq q us) := fun F W v q us B sq cq hv ho ht hF => by
    obtain ⟨s', c', e', _, hr⟩ := (ho.touch ht hF).shape
    rw [hv] at e'
    simp only [Value.slice.injEq, true_and] at e'
    rw [e'.1]
    exact hr
  have SA : Hid (∀ W, Touch [] w7 W → Calls Try.prog 13 #[.slice sx m cx', .slice sk m ck'] W fun e w' => e = .returned (.bool true) ∧ Touch [] W w') := fun W ht =>
    (same_true cx' ck' (RS.out [] W _ _ _ _ _ _ rfl OX7.out ht (by simp)) (RS.out [] W _ _ _ _ _ _ rfl OK7.out ht (by simp)) (by omega)).mono fun e w' hh => ⟨hh.1, by obtain ⟨q, hq⟩ := hh.2; rw [hq]; exact (Touch.refl _ _).drewN _⟩
  have SB : Hid (∀ W, Touch [] w7 W → Calls Try.prog 13 #[.slice sy m cy', .slice sk m ck'] W fun e w' => e = .returned (.bool true) ∧ Touch [] W w') := fun W ht =>
    (same_true cy' ck' (RS.out [] W _ _ _ _ _ _ rfl OY7.out ht (by simp)) (RS.out [] W _ _ _ _ _ _ rfl OK7.out ht (by simp)) (by omega)).mono fun e w' hh => ⟨hh.1, by obtain ⟨q, hq⟩ := hh.2; rw [hq]; exact (Touch.refl _ _).drewN _⟩
  have RT : Hid (∀ W, Touch [] w7 W → Rs W (some ⟨w6.heap.size, 0, none⟩) 2 two) := fun W ht => (R7.out.rs rfl).touch ht (by simp)
  have SC : Hid (∀ W, Touch [] w7 W → Calls Try.prog 13 #[.slice sz 2 cz', .slice (some ⟨w6.heap.size, 0, none⟩) 2 2] W fun e w' => e = .returned (.bool true) ∧ Touch [] W w') := fun W ht =>
    (same_true cz' 2 (RS.out [] W _ _ _ _ _ _ rfl OZ7.out ht (by simp)) (RT.out W ht) (by omega)).mono fun e w' hh => ⟨hh.1, by obtain ⟨q, hq⟩ := hh.2; rw [hq]; exact (Touch.refl _ _).drewN _⟩
  have SU : Hid (∀ W, Touch [] w7 W → Calls Try.prog 21 #[.slice (some ⟨gf, 0, none⟩) n cf] W fun e w' => e = .returned (.int .u32 (crc l : Int)) ∧ Touch [] W w') := fun W ht => by
    have h17 := U7.out.trans ht (by simp)
    have hr := HRF.out.touch h17 HGL.out (by simp)
    have hh := sum_big l gf 0 cf W (fun i hi => by
      have := hr i (by rw [List.length_append]; omega)
      rw [List.getElem_append_left hi] at this
      exact this) (Nat.lt_of_lt_of_le HGL.out h17.size) HLT.out (by rw [HL.out]; omega)
    rw [HL.out] at hh
    exact hh
  have SV : Hid (∀ W, Touch [] w7 W → Calls Try.prog 22 #[.slice sa n c] W fun e w' => e = .returned (.int .u32 (crc l : Int)) ∧ Touch [] W w') := fun W ht =>
    (rsum_came_big (CW.out W (T1.out.trans (U7.out.trans ht (by simp)) (by simp))) (by omega)).mono fun e w' hh => ⟨hh.1, by rw [hh.2]; exact Touch.refl _ _⟩
  have BY : Hid (∀ W, Touch [] w7 W → Calls Try.prog 19 #[.slice sa n c] W fun e w' => ∃ sv, e = .returned sv ∧ OwnB w' W.heap.size sv (l ++ [111, 112, 113]) ∧ Touch [] W w') := fun W ht => bytes_any (CW.out W (T1.out.trans (U7.out.trans ht (by simp)) (by simp))) (by omega)
  have HCF : Hid (∀ W, Touch [] w7 W → (convert 22 9 (.slice (some ⟨gf, 0, none⟩) (n + 3) cf)).run Try.prog W = .ok (.string (strOf (l ++ [111, 112, 113]))) W) := fun W ht => conv_own (F1.out.touch (U7.out.trans ht (by simp)) (by simp))
  obtain ⟨S3, hS3⟩ : ∃ S, S = strOf (l ++ [111, 112, 113]) := ⟨_, rfl⟩
  rw [← hS3] at HCF
  have HS3 := hid hS3
  obtain ⟨cr, hcr⟩ : ∃ cr, cr = crc l := ⟨_, rfl⟩
  rw [← hcr] at SU SV
  have SY : Hid (∀ F W, Touch F w7 W → (∀ k ∈ F, k < w3.heap.size) → Calls Try.prog 13 #[.slice sy m cy', .slice sk m ck'] W fun e w' => e = .returned (.bool true) ∧ Touch [] W w') := fun F W ht hF =>
    (same_true cy' ck' (RS.out F W _ _ _ _ _ _ rfl OY7.out ht (fun k hk hm => by have := hF k hm; have := LY.out k hk; omega)) (RS.out F W _ _ _ _ _ _ rfl OK7.out ht (fun k hk hm => by have := hF k hm; have := LK.out k hk; have := HSS.out; omega)) (by omega)).mono fun e w' hh => ⟨hh.1, by obtain ⟨q, hq⟩ := hh.2; rw [hq]; exact (Touch.refl _ _).drewN _⟩
  have SZ : Hid (∀ F W, Touch F w7 W → (∀ k ∈ F, k < w4.heap.size) → Calls Try.prog 13 #[.slice sz 2 cz', .slice (some ⟨w6.heap.size, 0, none⟩) 2 2] W fun e w' => e = .returned (.bool true) ∧ Touch [] W w') := fun F W ht hF =>
    (same_true cz' 2 (RS.out F W _ _ _ _ _ _ rfl OZ7.out ht (fun k hk hm => by have := hF k hm; have := LZ.out k hk; omega)) ((R7.out.rs rfl).touch ht (fun a ha hm => by cases ha; have h1 : w6.heap.size < w4.heap.size := hF _ hm; have := HSS.out; omega)) (by omega)).mono fun e w' hh => ⟨hh.1, by obtain ⟨q, hq⟩ := hh.2; rw [hq]; exact (Touch.refl _ _).drewN _⟩
  have TT := hid (show Touch [] w7 w7.drew from (Touch.refl _ _).drew)
  have hni : (n : Int) ≤ (cf : Int) := by omega
  have hn0 : (0 : Int) ≤ (n : Int) := by omega
  clear r7 t7 v67 v57 v47 v37 hS3 hcr OX OY OZ OK V3 V4 V5 V6 U2 U3 U4 U5 U6 DF R7
  have cf0 := HCF.out _ TT.out
  refine wp_region_noPanic ?_
  refine wp_region_held_drew (S := fun W => (convert 22 9 (.slice (some ⟨gf, 0, none⟩) (n + 3) cf)).run Try.prog W = .ok (.string S3) W) (by kernel_rfl) cf0 (fun hHeld => ?_)
  refine wpAnyH_take (i := 0) (v := ?_) (by simp only [List.getElem?_toArray, List.getElem?_cons_zero]; rfl) (by kernel_rfl) (by kernel_rfl) (by kernel_rfl) (fun _ _ _ h => h) (Or.inl ⟨by rfl, ?_⟩) (by assumption) ?_
  rotate_left 1
  · intro w hSw; (try dsimp only at hSw); go_simp; (try with_reducible rfl)
  try simp only [Act.put, List.setIfInBounds_toArray, List.set_cons_zero, List.set_cons_succ]
  refine wpAnyH_take (i := 1) (v := ?_) (by simp only [List.getElem?_toArray, List.getElem?_cons_succ, List.getElem?_cons_zero]; rfl) (by kernel_rfl) (by kernel_rfl) (by kernel_rfl) (fun _ _ _ h => h) (Or.inl ⟨by rfl, ?_⟩) (by assumption) ?_
  rotate_left 1
  · intro w hSw; (try dsimp only at hSw); go_simp; (try with_reducible rfl)
  try simp only [Act.put, List.setIfInBounds_toArray, List.set_cons_zero, List.set_cons_succ]
  refine wpAnyH_take (i := 2) (v := ?_) (by simp only [List.getElem?_toArray, List.getElem?_cons_succ, List.getElem?_cons_zero]; rfl) (by kernel_rfl) (by kernel_rfl) (by kernel_rfl) (fun _ _ _ h => h) (Or.inl ⟨by rfl, ?_⟩) (by assumption) ?_
  rotate_left 1
  · intro w hSw; (try dsimp only at hSw); go_simp; (try with_reducible rfl)
  try simp only [Act.put, List.setIfInBounds_toArray, List.set_cons_zero, List.set_cons_succ]
  refine wpAnyH_take (i := 3) (v := ?_) (by simp only [List.getElem?_toArray, List.getElem?_cons_succ, List.getElem?_cons_zero]; rfl) (by kernel_rfl) (by kernel_rfl) (by kernel_rfl) (fun _ _ _ h => h) (Or.inl ⟨by rfl, ?_⟩) (by assumption) ?_
  rotate_left 1
  · intro w hSw; (try dsimp only at hSw); go_simp; (try with_reducible rfl)
  try simp only [Act.put, List.setIfInBounds_toArray, List.set_cons_zero, List.set_cons_succ]
  refine wpAnyH_take (i := 4) (v := ?_) (by simp only [List.getElem?_toArray, List.getElem?_cons_succ, List.getElem?_cons_zero]; rfl) (by kernel_rfl) (by kernel_rfl) (by kernel_rfl) (fun _ _ _ h => h) (Or.inl ⟨by rfl, ?_⟩) (by assumption) ?_
  rotate_left 1
  · intro w hSw; (try dsimp only at hSw); go_simp; (try with_reducible rfl)
  try simp only [Act.put, List.setIfInBounds_toArray, List.set_cons_zero, List.set_cons_succ]
  refine wpAnyH_take (i := 5) (v := ?_) (by simp only [List.getElem?_toArray, List.getElem?_cons_succ, List.getElem?_cons_zero]; rfl) (by kernel_rfl) (by kernel_rfl) (by kernel_rfl) (fun _ _ _ h => h) (Or.inl ⟨by rfl, ?_⟩) (by assumption) ?_
  rotate_left 1
  · intro w hSw; (try dsimp only at hSw); go_simp; (try with_reducible rfl)
  try simp only [Act.put, List.setIfInBounds_toArray, List.set_cons_zero, List.set_cons_succ]
  refine wpAnyH_take (i := 6) (v := ?_) (by simp only [List.getElem?_toArray, List.getElem?_cons_succ, List.getElem?_cons_zero]; rfl) (by kernel_rfl) (by kernel_rfl) (by kernel_rfl) (fun _ _ _ h => h) (Or.inl ⟨by rfl, ?_⟩) (by assumption) ?_
  rotate_left 1
  · intro w hSw; (try dsimp only at hSw); go_simp; (try with_reducible rfl)
  try simp only [Act.put, List.setIfInBounds_toArray, List.set_cons_zero, List.set_cons_succ]
  refine wpAnyH_take (i := 7) (v := ?_) (by simp only [List.getElem?_toArray, List.getElem?_cons_succ, List.getElem?_cons_zero]; rfl) (by kernel_rfl) (by kernel_rfl) (by kernel_rfl) (fun _ _ _ h => h) (Or.inl ⟨by rfl, ?_⟩) (by assumption) ?_
  rotate_left 1
  · intro w hSw; (try dsimp only at hSw); go_simp; (try with_reducible rfl)
  try simp only [Act.put, List.setIfInBounds_toArray, List.set_cons_zero, List.set_cons_succ]
  refine wpAnyH_take (i := 8) (v := ?_) (by simp only [List.getElem?_toArray, List.getElem?_cons_succ, List.getElem?_cons_zero]; rfl) (by kernel_rfl) (by kernel_rfl) (by kernel_rfl) (fun _ _ _ h => h) (Or.inl ⟨by rfl, ?_⟩) (by assumption) ?_
  rotate_left 1
  · intro w hSw; (try dsimp only at hSw); go_simp; (try with_reducible rfl)
  try simp only [Act.put, List.setIfInBounds_toArray, List.set_cons_zero, List.set_cons_succ]
  refine wpAnyH_take (i := 9) (v := ?_) (by simp only [List.getElem?_toArray, List.getElem?_cons_succ, List.getElem?_cons_zero]; rfl) (by kernel_rfl) (by kernel_rfl) (by kernel_rfl) (fun _ _ _ h => h) (Or.inl ⟨by rfl, ?_⟩) (by assumption) ?_
  rotate_left 1
  · intro w hSw; (try dsimp only at hSw); go_simp; (try with_reducible rfl)
  try simp only [Act.put, List.setIfInBounds_toArray, List.set_cons_zero, List.set_cons_succ]
  refine wpAnyH_take (i := 10) (v := ?_) (by simp only [List.getElem?_toArray, List.getElem?_cons_succ, List.getElem?_cons_zero]; rfl) (by kernel_rfl) (by kernel_rfl) (by kernel_rfl) (fun _ _ _ h => h) (Or.inl ⟨by rfl, ?_⟩) (by assumption) ?_
  rotate_left 1
  · intro w hSw; (try dsimp only at hSw); go_simp; (try with_reducible rfl)
  try simp only [Act.put, List.setIfInBounds_toArray, List.set_cons_zero, List.set_cons_succ]
  refine wpAnyH_take (i := 11) (v := ?_) (by simp only [List.getElem?_toArray, List.getElem?_cons_succ, List.getElem?_cons_zero]; rfl) (by kernel_rfl) (by kernel_rfl) (by kernel_rfl) (fun _ _ _ h => h) (Or.inl ⟨by rfl, ?_⟩) (by assumption) ?_
  rotate_left 1
  · intro w hSw; (try dsimp only at hSw); go_simp; (try with_reducible rfl)
  try simp only [Act.put, List.setIfInBounds_toArray, List.set_cons_zero, List.set_cons_succ]
  refine wpAnyH_take (i := 12) (v := ?_) (by simp only [List.getElem?_toArray, List.getElem?_cons_succ, List.getElem?_cons_zero]; rfl) (by kernel_rfl) (by kernel_rfl) (by kernel_rfl) (fun _ _ _ h => h) (Or.inl ⟨by rfl, ?_⟩) (by assumption) ?_
  rotate_left 1
  · intro w hSw; (try dsimp only at hSw); go_simp; (try with_reducible rfl)
  try simp only [Act.put, List.setIfInBounds_toArray, List.set_cons_zero, List.set_cons_succ]
  refine wpAnyH_take (i := 13) (v := ?_) (by simp only [List.getElem?_toArray, List.getElem?_cons_succ, List.getElem?_cons_zero]; rfl) (by kernel_rfl) (by kernel_rfl) (by kernel_rfl) (fun _ _ _ h => h) (Or.inl ⟨by rfl, ?_⟩) (by assumption) ?_
  rotate_left 1
  · intro w hSw; (try dsimp only at hSw); go_simp; (try with_reducible rfl)
  try simp only [Act.put, List.setIfInBounds_toArray, List.set_cons_zero, List.set_cons_succ]
  refine wpAnyH_take (i := 14) (v := ?_) (by simp only [List.getElem?_toArray, List.getElem?_cons_succ, List.getElem?_cons_zero]; rfl) (by kernel_rfl) (by kernel_rfl) (by kernel_rfl) (fun _ _ _ h => h) (Or.inl ⟨by rfl, ?_⟩) (by assumption) ?_
  rotate_left 1
  · intro w hSw; (try dsimp only at hSw); go_simp; (try with_reducible rfl)
  try simp only [Act.put, List.setIfInBounds_toArray, List.set_cons_zero, List.set_cons_succ]
  refine wpAnyH_ready (rs := [15]) (by kernel_rfl) (by simp) ?_
  refine AllReadyH.cons (by simp only [List.getElem?_toArray, List.getElem?_cons_succ, List.getElem?_cons_zero]; rfl) (fun K hK => ?_) AllReadyH.nil
  go_simp
  go_at_call 13
  with_reducible refine (SA.out _ TT.out).mono ?_
  rintro e w8 ⟨rfl, t8⟩
  replace TT := hid (TT.out.trans t8 (by simp))
  replace cf0 := HCF.out _ TT.out
  clear t8
  go_wp2_with fail
  clear hHeld
  refine hK.out _ _ cf0 (fun hHeld => ?_)
  clear hK K
  try simp only [Act.put, List.setIfInBounds_toArray, List.set_cons_zero, List.set_cons_succ]
  refine wpAnyH_take (i := 16) (v := ?_) (by simp only [List.getElem?_toArray, List.getElem?_cons_succ, List.getElem?_cons_zero]; rfl) (by kernel_rfl) (by kernel_rfl) (by kernel_rfl) (fun _ _ _ h => h) (Or.inl ⟨by rfl, ?_⟩) (by assumption) ?_
  rotate_left 1
  · intro w hSw; (try dsimp only at hSw); go_simp; (try with_reducible rfl)
  try simp only [Act.put, List.setIfInBounds_toArray, List.set_cons_zero, List.set_cons_succ]
  refine wpAnyH_take (i := 17) (v := ?_) (by simp only [List.getElem?_toArray, List.getElem?_cons_succ, List.getElem?_cons_zero]; rfl) (by kernel_rfl) (by kernel_rfl) (by kernel_rfl) (fun _ _ _ h => h) (Or.inl ⟨by rfl, ?_⟩) (by assumption) ?_
  rotate_left 1
  · intro w hSw; (try dsimp only at hSw); go_simp; (try with_reducible rfl)
  try simp only [Act.put, List.setIfInBounds_toArray, List.set_cons_zero, List.set_cons_succ]
  refine wpAnyH_take (i := 18) (v := ?_) (by simp only [List.getElem?_toArray, List.getElem?_cons_succ, List.getElem?_cons_zero]; rfl) (by kernel_rfl) (by kernel_rfl) (by kernel_rfl) (fun _ _ _ h => h) (Or.inl ⟨by rfl, ?_⟩) (by assumption) ?_
  rotate_left 1
  · intro w hSw; (try dsimp only at hSw); go_simp; (try with_reducible rfl)
  try simp only [Act.put, List.setIfInBounds_toArray, List.set_cons_zero, List.set_cons_succ]
  refine wpAnyH_take (i := 19) (v := ?_) (by simp only [List.getElem?_toArray, List.getElem?_cons_succ, List.getElem?_cons_zero]; rfl) (by kernel_rfl) (by kernel_rfl) (by kernel_rfl) (fun _ _ _ h => h) (Or.inl ⟨by rfl, ?_⟩) (by assumption) ?_
  rotate_left 1
  · intro w hSw; (try dsimp only at hSw); go_simp; (try with_reducible rfl)
  try simp only [Act.put, List.setIfInBounds_toArray, List.set_cons_zero, List.set_cons_succ]
  refine wpAnyH_take (i := 20) (v := ?_) (by simp only [List.getElem?_toArray, List.getElem?_cons_succ, List.getElem?_cons_zero]; rfl) (by kernel_rfl) (by kernel_rfl) (by kernel_rfl) (fun _ _ _ h => h) (Or.inl ⟨by rfl, ?_⟩) (by assumption) ?_
  rotate_left 1
  · intro w hSw; (try dsimp only at hSw); go_simp; (try with_reducible rfl)
  try simp only [Act.put, List.setIfInBounds_toArray, List.set_cons_zero, List.set_cons_succ]
  refine wpAnyH_ready (rs := [21]) (by kernel_rfl) (by simp) ?_
  refine AllReadyH.cons (by simp only [List.getElem?_toArray, List.getElem?_cons_succ, List.getElem?_cons_zero]; rfl) (fun K hK => ?_) AllReadyH.nil
  go_simp
  go_at_call 13
  with_reducible refine (SB.out _ TT.out).mono ?_
  rintro e w8 ⟨rfl, t8⟩
  replace TT := hid (TT.out.trans t8 (by simp))
  replace cf0 := HCF.out _ TT.out
  clear t8
  go_wp2_with fail
  clear hHeld
  refine hK.out _ _ cf0 (fun hHeld => ?_)
  clear hK K
  try simp only [Act.put, List.setIfInBounds_toArray, List.set_cons_zero, List.set_cons_succ]
  refine wpAnyH_take (i := 22) (v := ?_) (by simp only [List.getElem?_toArray, List.getElem?_cons_succ, List.getElem?_cons_zero]; rfl) (by kernel_rfl) (by kernel_rfl) (by kernel_rfl) (fun _ _ _ h => h) (Or.inl ⟨by rfl, ?_⟩) (by assumption) ?_
  rotate_left 1
  · intro w hSw; (try dsimp only at hSw); go_simp; (try with_reducible rfl)
  try simp only [Act.put, List.setIfInBounds_toArray, List.set_cons_zero, List.set_cons_succ]
  refine wpAnyH_take (i := 23) (v := ?_) (by simp only [List.getElem?_toArray, List.getElem?_cons_succ, List.getElem?_cons_zero]; rfl) (by kernel_rfl) (by kernel_rfl) (by kernel_rfl) (fun _ _ _ h => h) (Or.inl ⟨by rfl, ?_⟩) (by assumption) ?_
  rotate_left 1
  · intro w hSw; (try dsimp only at hSw); go_simp; (try with_reducible rfl)
  try simp only [Act.put, List.setIfInBounds_toArray, List.set_cons_zero, List.set_cons_succ]
  refine wpAnyH_take (i := 24) (v := ?_) (by simp only [List.getElem?_toArray, List.getElem?_cons_succ, List.getElem?_cons_zero]; rfl) (by kernel_rfl) (by kernel_rfl) (by kernel_rfl) (fun _ _ _ h => h) (Or.inl ⟨by rfl, ?_⟩) (by assumption) ?_
  rotate_left 1
  · intro w hSw; (try dsimp only at hSw); go_simp; (try with_reducible rfl)
  try simp only [Act.put, List.setIfInBounds_toArray, List.set_cons_zero, List.set_cons_succ]
  refine wpAnyH_take (i := 25) (v := ?_) (by simp only [List.getElem?_toArray, List.getElem?_cons_succ, List.getElem?_cons_zero]; rfl) (by kernel_rfl) (by kernel_rfl) (by kernel_rfl) (fun _ _ _ h => h) (Or.inl ⟨by rfl, ?_⟩) (by assumption) ?_
  rotate_left 1
  · intro w hSw; (try dsimp only at hSw); go_simp; (try with_reducible rfl)
  try simp only [Act.put, List.setIfInBounds_toArray, List.set_cons_zero, List.set_cons_succ]
  refine wpAnyH_take (i := 26) (v := ?_) (by simp only [List.getElem?_toArray, List.getElem?_cons_succ, List.getElem?_cons_zero]; rfl) (by kernel_rfl) (by kernel_rfl) (by kernel_rfl) (fun _ _ _ h => h) (Or.inl ⟨by rfl, ?_⟩) (by assumption) ?_
  rotate_left 1
  · intro w hSw; (try dsimp only at hSw); go_simp; (try with_reducible rfl)
  try simp only [Act.put, List.setIfInBounds_toArray, List.set_cons_zero, List.set_cons_succ]
  refine wpAnyH_ready (rs := [27]) (by kernel_rfl) (by simp) ?_
  refine AllReadyH.cons (by simp only [List.getElem?_toArray, List.getElem?_cons_succ, List.getElem?_cons_zero]; rfl) (fun K hK => ?_) AllReadyH.nil
  go_simp
  go_at_call 13
  with_reducible refine (SC.out _ TT.out).mono ?_
  rintro e w8 ⟨rfl, t8⟩
  replace TT := hid (TT.out.trans t8 (by simp))
  replace cf0 := HCF.out _ TT.out
  clear t8
  go_wp2_with fail
  clear hHeld
  refine hK.out _ _ cf0 (fun hHeld => ?_)
  clear hK K
  try simp only [Act.put, List.setIfInBounds_toArray, List.set_cons_zero, List.set_cons_succ]
  refine wpAnyH_take (i := 28) (v := ?_) (by simp only [List.getElem?_toArray, List.getElem?_cons_succ, List.getElem?_cons_zero]; rfl) (by kernel_rfl) (by kernel_rfl) (by kernel_rfl) (fun _ _ _ h => h) (Or.inl ⟨by rfl, ?_⟩) (by assumption) ?_
  rotate_left 1
  · intro w hSw; (try dsimp only at hSw); go_simp; (try with_reducible rfl)
  try simp only [Act.put, List.setIfInBounds_toArray, List.set_cons_zero, List.set_cons_succ]
  refine wpAnyH_take (i := 29) (v := ?_) (by simp only [List.getElem?_toArray, List.getElem?_cons_succ, List.getElem?_cons_zero]; rfl) (by kernel_rfl) (by kernel_rfl) (by kernel_rfl) (fun _ _ _ h => h) (Or.inl ⟨by rfl, ?_⟩) (by assumption) ?_
  rotate_left 1
  · intro w hSw; (try dsimp only at hSw); go_simp; (try with_reducible rfl)
  try simp only [Act.put, List.setIfInBounds_toArray, List.set_cons_zero, List.set_cons_succ]
  refine wpAnyH_take (i := 30) (v := ?_) (by simp only [List.getElem?_toArray, List.getElem?_cons_succ, List.getElem?_cons_zero]; rfl) (by kernel_rfl) (by kernel_rfl) (by kernel_rfl) (fun _ _ _ h => h) (Or.inl ⟨by rfl, ?_⟩) (by assumption) ?_
  rotate_left 1
  · intro w hSw; (try dsimp only at hSw); go_simp; (try with_reducible rfl)
  try simp only [Act.put, List.setIfInBounds_toArray, List.set_cons_zero, List.set_cons_succ]
  refine wpAnyH_take (i := 31) (v := ?_) (by simp only [List.getElem?_toArray, List.getElem?_cons_succ, List.getElem?_cons_zero]; rfl) (by kernel_rfl) (by kernel_rfl) (by kernel_rfl) (fun _ _ _ h => h) (Or.inl ⟨by rfl, ?_⟩) (by assumption) ?_
  rotate_left 1
  · intro w hSw; (try dsimp only at hSw); go_simp; (try with_reducible rfl)
  try simp only [Act.put, List.setIfInBounds_toArray, List.set_cons_zero, List.set_cons_succ]
  refine wpAnyH_take (i := 32) (v := ?_) (by simp only [List.getElem?_toArray, List.getElem?_cons_succ, List.getElem?_cons_zero]; rfl) (by kernel_rfl) (by kernel_rfl) (by kernel_rfl) (fun _ _ _ h => h) (Or.inl ⟨by rfl, ?_⟩) (by assumption) ?_
  rotate_left 1
  · intro w hSw; (try dsimp only at hSw); go_simp; (try with_reducible rfl)
  try simp only [Act.put, List.setIfInBounds_toArray, List.set_cons_zero, List.set_cons_succ]
  refine wpAnyH_take (i := 33) (v := ?_) (by simp only [List.getElem?_toArray, List.getElem?_cons_succ, List.getElem?_cons_zero]; rfl) (by kernel_rfl) (by kernel_rfl) (by kernel_rfl) (fun _ _ _ h => h) (Or.inl ⟨by rfl, ?_⟩) (by assumption) ?_
  rotate_left 1
  · intro w hSw; (try dsimp only at hSw); go_simp; (try with_reducible rfl)
  try simp only [Act.put, List.setIfInBounds_toArray, List.set_cons_zero, List.set_cons_succ]
  refine wpAnyH_take (i := 34) (v := ?_) (by simp only [List.getElem?_toArray, List.getElem?_cons_succ, List.getElem?_cons_zero]; rfl) (by kernel_rfl) (by kernel_rfl) (by kernel_rfl) (fun _ _ _ h => h) (Or.inl ⟨by rfl, ?_⟩) (by assumption) ?_
  rotate_left 1
  · intro w hSw; (try dsimp only at hSw); go_simp; (try with_reducible rfl)
  try simp only [Act.put, List.setIfInBounds_toArray, List.set_cons_zero, List.set_cons_succ]
  refine wpAnyH_take (i := 36) (v := ?_) (by simp only [List.getElem?_toArray, List.getElem?_cons_succ, List.getElem?_cons_zero]; rfl) (by kernel_rfl) (by kernel_rfl) (by kernel_rfl) (fun _ _ _ h => h) (Or.inl ⟨by rfl, ?_⟩) (by assumption) ?_
  rotate_left 1
  · intro w hSw; (try dsimp only at hSw); go_simp; (try with_reducible rfl)
  try simp only [Act.put, List.setIfInBounds_toArray, List.set_cons_zero, List.set_cons_succ]
  refine wpAnyH_ready (rs := [35]) (by kernel_rfl) (by simp) ?_
  refine AllReadyH.cons (by simp only [List.getElem?_toArray, List.getElem?_cons_succ, List.getElem?_cons_zero]; rfl) (fun K hK => ?_) AllReadyH.nil
  go_simp
  go_at_call 21
  with_reducible refine (SU.out _ TT.out).mono ?_
  rintro e w8 ⟨rfl, t8⟩
  replace TT := hid (TT.out.trans t8 (by simp))
  replace cf0 := HCF.out _ TT.out
  clear t8
  go_wp2_with fail
  clear hHeld
  refine hK.out _ _ cf0 (fun hHeld => ?_)
  clear hK K
  try simp only [Act.put, List.setIfInBounds_toArray, List.set_cons_zero, List.set_cons_succ]
  refine wpAnyH_ready (rs := [37]) (by kernel_rfl) (by simp) ?_
  refine AllReadyH.cons (by simp only [List.getElem?_toArray, List.getElem?_cons_succ, List.getElem?_cons_zero]; rfl) (fun K hK => ?_) AllReadyH.nil
  go_simp
  go_at_call 22
  with_reducible refine (SV.out _ TT.out).mono ?_
  rintro e w8 ⟨rfl, t8⟩
  replace TT := hid (TT.out.trans t8 (by simp))
  replace cf0 := HCF.out _ TT.out
  clear t8
  go_wp2_with fail
  clear hHeld
  refine hK.out _ _ cf0 (fun hHeld => ?_)
  clear hK K
  try simp only [Act.put, List.setIfInBounds_toArray, List.set_cons_zero, List.set_cons_succ]
  refine wpAnyH_take (i := 38) (v := ?_) (by simp only [List.getElem?_toArray, List.getElem?_cons_succ, List.getElem?_cons_zero]; rfl) (by kernel_rfl) (by kernel_rfl) (by kernel_rfl) (fun _ _ _ h => h) (Or.inl ⟨by rfl, ?_⟩) (by assumption) ?_
  rotate_left 1
  · intro w hSw; (try dsimp only at hSw); go_simp; (try with_reducible rfl)
  try simp only [Act.put, List.setIfInBounds_toArray, List.set_cons_zero, List.set_cons_succ]
  refine wpAnyH_take (i := 39) (v := ?_) (by simp only [List.getElem?_toArray, List.getElem?_cons_succ, List.getElem?_cons_zero]; rfl) (by kernel_rfl) (by kernel_rfl) (by kernel_rfl) (fun _ _ _ h => h) (Or.inl ⟨by rfl, ?_⟩) (by assumption) ?_
  rotate_left 1
  · intro w hSw; (try dsimp only at hSw); go_simp; (try with_reducible rfl)
  try simp only [Act.put, List.setIfInBounds_toArray, List.set_cons_zero, List.set_cons_succ]
  refine wpAnyH_take (i := 40) (v := ?_) (by simp only [List.getElem?_toArray, List.getElem?_cons_succ, List.getElem?_cons_zero]; rfl) (by kernel_rfl) (by kernel_rfl) (by kernel_rfl) (fun _ _ _ h => h) (Or.inl ⟨by rfl, ?_⟩) (by assumption) ?_
  rotate_left 1
  · intro w hSw; (try dsimp only at hSw); go_simp; (try with_reducible rfl)
  try simp only [Act.put, List.setIfInBounds_toArray, List.set_cons_zero, List.set_cons_succ]
  refine wpAnyH_take (i := 41) (v := ?_) (by simp only [List.getElem?_toArray, List.getElem?_cons_succ, List.getElem?_cons_zero]; rfl) (by kernel_rfl) (by kernel_rfl) (by kernel_rfl) (fun _ _ _ h => h) (Or.inl ⟨by rfl, ?_⟩) (by assumption) ?_
  rotate_left 1
  · intro w hSw; (try dsimp only at hSw); go_simp; (try with_reducible rfl)
  try simp only [Act.put, List.setIfInBounds_toArray, List.set_cons_zero, List.set_cons_succ]
  refine wpAnyH_take (i := 42) (v := ?_) (by simp only [List.getElem?_toArray, List.getElem?_cons_succ, List.getElem?_cons_zero]; rfl) (by kernel_rfl) (by kernel_rfl) (by kernel_rfl) (fun _ _ _ h => h) (Or.inl ⟨by rfl, ?_⟩) (by assumption) ?_
  rotate_left 1
  · intro w hSw; (try dsimp only at hSw); go_simp; (try with_reducible rfl)
  try simp only [Act.put, List.setIfInBounds_toArray, List.set_cons_zero, List.set_cons_succ]
  refine wpAnyH_take (i := 43) (v := ?_) (by simp only [List.getElem?_toArray, List.getElem?_cons_succ, List.getElem?_cons_zero]; rfl) (by kernel_rfl) (by kernel_rfl) (by kernel_rfl) (fun _ _ _ h => h) (Or.inl ⟨by rfl, ?_⟩) (by assumption) ?_
  rotate_left 1
  · intro w hSw; (try dsimp only at hSw); go_simp; (try with_reducible rfl)
  try simp only [Act.put, List.setIfInBounds_toArray, List.set_cons_zero, List.set_cons_succ]
  refine wpAnyH_ready (rs := [44]) (by kernel_rfl) (by simp) ?_
  refine AllReadyH.cons (by simp only [List.getElem?_toArray, List.getElem?_cons_succ, List.getElem?_cons_zero]; rfl) (fun K hK => ?_) AllReadyH.nil
  go_simp
  go_at_call 19
  with_reducible refine (BY.out _ TT.out).mono ?_
  rintro e w8 ⟨sv, rfl, ob, t8⟩
  have cv := conv_own ob
  rw [← HS3.out] at cv
  replace TT := hid (TT.out.trans t8 (by simp))
  replace cf0 := HCF.out _ TT.out
  clear ob t8
  go_wp2_with fail
  clear hHeld
  refine hK.out _ _ cf0 (fun hHeld => ?_)
  clear hK K
  try simp only [Act.put, List.setIfInBounds_toArray, List.set_cons_zero, List.set_cons_succ]
  refine wpAnyH_ready (rs := [45]) (by kernel_rfl) (by simp) ?_
  refine AllReadyH.cons (by simp only [List.getElem?_toArray, List.getElem?_cons_succ, List.getElem?_cons_zero]; rfl) (fun K hK => ?_) AllReadyH.nil
  go_simp
  clear hHeld
  refine hK.out _ _ cf0 (fun hHeld => ?_)
  clear hK K
  try simp only [Act.put, List.setIfInBounds_toArray, List.set_cons_zero, List.set_cons_succ]
  refine wpAnyH_take (i := 46) (v := ?_) (by simp only [List.getElem?_toArray, List.getElem?_cons_succ, List.getElem?_cons_zero]; rfl) (by kernel_rfl) (by kernel_rfl) (by kernel_rfl) (fun _ _ _ h => h) (Or.inl ⟨by rfl, ?_⟩) (by assumption) ?_
  rotate_left 1
  · intro w hSw; (try dsimp only at hSw); go_simp; (try with_reducible rfl)
  try simp only [Act.put, List.setIfInBounds_toArray, List.set_cons_zero, List.set_cons_succ]
  refine wpAnyH_take (i := 47) (v := ?_) (by simp only [List.getElem?_toArray, List.getElem?_cons_succ, List.getElem?_cons_zero]; rfl) (by kernel_rfl) (by kernel_rfl) (by kernel_rfl) (fun _ _ _ h => h) (Or.inl ⟨by rfl, ?_⟩) (by assumption) ?_
  rotate_left 1
  · intro w hSw; (try dsimp only at hSw); go_simp; (try with_reducible rfl)
  try simp only [Act.put, List.setIfInBounds_toArray, List.set_cons_zero, List.set_cons_succ]
  refine wpAnyH_done (by kernel_rfl) ?_ _
  refine NoPanic.normal ?_
  clear HCF SU SV BY SA SB SC cv cf0 hHeld
  have N1 : Hid (∀ k ∈ (Value.slice sx m cx').ownBlock.toList, w2.heap.size ≤ k ∧ k < w3.heap.size) := fun k hk => LX.out k (by simpa using hk)
  have N2 : Hid (∀ k ∈ (Value.slice sy m cy').ownBlock.toList, w3.heap.size ≤ k ∧ k < w4.heap.size) := fun k hk => LY.out k (by simpa using hk)
  have N3 : Hid (∀ k ∈ (Value.slice sz 2 cz').ownBlock.toList, w4.heap.size ≤ k ∧ k < w5.heap.size) := fun k hk => LZ.out k (by simpa using hk)
  have HX8 := hid (OX7.out.touch TT.out (by simp))
  have Z8 := hid TT.out.size
  go_wp2_with fail
  with_reducible refine (scored_at w2.heap.size _ m ws 91 w8 (91 : Int) rfl HX8.out (by have := HSS.out; have := Z8.out; omega) (by omega) (by omega)).mono ?_
  rintro e w9 ⟨gx9, rfl, o9, t9, b9⟩
  have O9 := hid o9
  have B9 := hid b9
  have T9 := hid (show Touch (Value.slice sx m cx').ownBlock.toList w7 w9 from (TT.out.mono (by simp)).trans t9 (fun b hb => Or.inl hb))
  clear o9 b9 t9
  go_wp2_with fail
  with_reducible refine (SY.out _ w9 T9.out (fun k hk => (N1.out k hk).2)).mono ?_
  rintro e w10 ⟨rfl, t10⟩
  have T10 := hid (T9.out.trans t10 (by simp))
  have V10 := hid t10
  clear t10
  go_wp2_with fail
  with_reducible refine (SZ.out _ w10 T10.out (fun k hk => by have := N1.out k hk; have := HSS.out; omega)).mono ?_
  rintro e w11 ⟨rfl, t11⟩
  have T11 := hid (T10.out.trans t11 (by simp))
  have V11 := hid (V10.out.trans t11 (by simp))
  clear t11
  go_wp2_with fail
  have HY11 := hid (OY7.out.touch T11.out (fun k hk hm => by have := N1.out k hm; have := LY.out k hk; omega))
  have Z11 := hid T11.out.size
  with_reducible refine (scored_at w3.heap.size _ m ws 93 w11 (93 : Int) rfl HY11.out (by have := HSS.out; have := Z11.out; omega) (by omega) (by omega)).mono ?_
  rintro e w12 ⟨gy12, rfl, o12, t12, b12⟩
  have O12 := hid o12
  have B12 := hid b12
  have G12 := hid ((O9.out.touch V11.out (by simp)).touch t12 (fun k hk hm => by have h1 := N2.out k hm; have := HSS.out; have := Z8.out; rcases B9.out k hk with h | h; (have := N1.out k h; omega); omega))
  have T12 := hid (show Touch ((Value.slice sx m cx').ownBlock.toList ++ (Value.slice sy m cy').ownBlock.toList) w7 w12 from (T11.out.mono (fun b hb => List.mem_append_left _ hb)).trans t12 (fun b hb => Or.inl (List.mem_append_right _ hb)))
  clear o12 b12 t12
  go_wp2_with fail
  with_reducible refine (SZ.out _ w12 T12.out (fun k hk => by rcases List.mem_append.1 hk with h | h; (have := N1.out k h; have := HSS.out; omega); exact (N2.out k h).2)).mono ?_
  rintro e w13 ⟨rfl, t13⟩
  have T13 := hid (T12.out.trans t13 (by simp))
  have GX13 := hid (G12.out.touch t13 (by simp))
  have GY13 := hid (O12.out.touch t13 (by simp))
  clear t13
  go_wp2_with fail
  have HZ13 := hid (OZ7.out.touch T13.out (fun k hk hm => by have := LZ.out k hk; rcases List.mem_append.1 hm with h | h; (have := N1.out k h; have := HSS.out; omega); (have := N2.out k h; omega)))
  have Z13 := hid T13.out.size
  with_reducible refine (scored_at w4.heap.size _ 2 two 95 w13 (95 : Int) rfl HZ13.out (by have := HSS.out; have := Z13.out; omega) (by omega) (by omega)).mono ?_
  rintro e w14 ⟨gz14, rfl, o14, t14, b14⟩
  have S1 := hid (stands_at _ _ _ 91 w14 (91 : Int) rfl (GX13.out.touch t14 (fun k hk hm => by have h1 := N3.out k hm; have := HSS.out; have := Z8.out; rcases B9.out k hk with h | h; (have := N1.out k h; omega); omega)) (by omega) (by omega))
  have S2 := hid (stands_at _ _ _ 93 w14 (93 : Int) rfl (GY13.out.touch t14 (fun k hk hm => by have h1 := N3.out k hm; have := HSS.out; have := Z11.out; rcases B12.out k hk with h | h; (have := N2.out k h; omega); omega)) (by omega) (by omega))
  have S3' : Hid (Calls Try.prog 24 #[gz14, .int .i64 2, .int .u64 95] w14 fun e w' => e = .returned (.bool true) ∧ w' = w14) := stands_at _ _ 2 95 w14 (95 : Int) rfl o14 (by omega) (by omega)
  have T14 := hid (show Touch ((Value.slice sx m cx').ownBlock.toList ++ (Value.slice sy m cy').ownBlock.toList ++ (Value.slice sz 2 cz').ownBlock.toList) w7 w14 from (T13.out.mono (fun b hb => List.mem_append_left _ hb)).trans t14 (fun b hb => Or.inl (List.mem_append_right _ hb)))
  clear o14 t14 b14 GX13 GY13 G12 O12 O9 B9 B12 HY11 HZ13 HX8
  go_wp2_with fail
  with_reducible refine S1.out.mono ?_
  rintro e w15 ⟨rfl, rfl⟩
  go_wp2_with fail
  with_reducible refine S2.out.mono ?_
  rintro e w15 ⟨rfl, rfl⟩
  go_wp2_with fail
  with_reducible refine S3'.out.mono ?_
  rintro e w15 ⟨rfl, rfl⟩
  go_wp2_with fail
  have U15 := hid (show Touch [] w1 w15 from U7.out.trans T14.out (fun b hb => Or.inr (by have := HSS.out; rcases List.mem_append.1 hb with hb | hb; (rcases List.mem_append.1 hb with hb | hb; (have := N1.out b hb; omega); (have := N2.out b hb; omega)); (have := N3.out b hb; omega))))
  have OK15 := hid (OK7.out.touch T14.out (fun k hk hb => by have := HSS.out; have := LK.out k hk; rcases List.mem_append.1 hb with hb | hb; (rcases List.mem_append.1 hb with hb | hb; (have := N1.out k hb; omega); (have := N2.out k hb; omega)); (have := N3.out k hb; omega)))
  clear T14 S1 S2 S3' N1 N2 N3 T9 T10 T11 T12 T13 V10 V11 SY SZ OX7 OY7 OZ7 LX LY LZ RT RS TT Z8 Z11 Z13
  with_reducible refine (HE1.out w15 _ cf (FC.out w15 U15.out)).mono ?_
  rintro e w16 ⟨x2, rfl, ox2, t16⟩
  have U16 := hid (U15.out.trans t16 (by simp))
  have OK16 := hid (OK15.out.touch t16 (by simp))
  obtain ⟨sx2, cx2, ex, _, _⟩ := ox2.shape
  subst ex
  have OX16 := hid ox2
  clear ox2 t16 OK15
  go_wp2_with fail
  have SA : Hid (∀ W, Touch [] w16 W → Calls Try.prog 13 #[.slice sx2 m cx2, .slice sk m ck'] W fun e w' => e = .returned (.bool true) ∧ Touch [] W w') := fun W ht => by
    obtain ⟨_, _, e1, _, r1⟩ := (OX16.out.touch ht (by simp)).shape
    obtain ⟨_, _, e2, _, r2⟩ := (OK16.out.touch ht (by simp)).shape
    simp only [Value.slice.injEq, true_and] at e1 e2
    rw [← e1.1] at r1
    rw [← e2.1] at r2
    exact (same_true cx2 ck' r1 r2 (by omega)).mono fun e w' hh => ⟨hh.1, by obtain ⟨q, hq⟩ := hh.2; rw [hq]; exact (Touch.refl _ _).drewN _⟩
  have BY : Hid (∀ W, Touch [] w16 W → Calls Try.prog 19 #[.slice sa n c] W fun e w' => ∃ sv, e = .returned sv ∧ OwnB w' W.heap.size sv (l ++ [111, 112, 113]) ∧ Touch [] W w') := fun W ht => bytes_any (CW.out W (T1.out.trans (U16.out.trans ht (by simp)) (by simp))) (by omega)
  have HCF : Hid (∀ W, Touch [] w16 W → (convert 22 9 (.slice (some ⟨gf, 0, none⟩) (n + 3) cf)).run Try.prog W = .ok (.string S3) W) := fun W ht => by
    rw [HS3.out]
    exact conv_own (F1.out.touch (U16.out.trans ht (by simp)) (by simp))
  have TT := hid (show Touch [] w16 w16.drew from (Touch.refl _ _).drew)
  have cf0 := HCF.out _ TT.out
  refine wp_region_noPanic ?_
  refine wp_region_held_drew (S := fun W => (convert 22 9 (.slice (some ⟨gf, 0, none⟩) (n + 3) cf)).run Try.prog W = .ok (.string S3) W) (by kernel_rfl) cf0 (fun hHeld => ?_)
  refine wpAnyH_take (i := 0) (v := ?_) (by simp only [List.getElem?_toArray, List.getElem?_cons_zero]; rfl) (by kernel_rfl) (by kernel_rfl) (by kernel_rfl) (fun _ _ _ h => h) (Or.inl ⟨by rfl, ?_⟩) (by assumption) ?_
  rotate_left 1
  · intro w hSw; (try dsimp only at hSw); go_simp; (try with_reducible rfl)
  try simp only [Act.put, List.setIfInBounds_toArray, List.set_cons_zero, List.set_cons_succ]
  refine wpAnyH_take (i := 1) (v := ?_) (by simp only [List.getElem?_toArray, List.getElem?_cons_succ, List.getElem?_cons_zero]; rfl) (by kernel_rfl) (by kernel_rfl) (by kernel_rfl) (fun _ _ _ h => h) (Or.inl ⟨by rfl, ?_⟩) (by assumption) ?_
  rotate_left 1
  · intro w hSw; (try dsimp only at hSw); go_simp; (try with_reducible rfl)
  try simp only [Act.put, List.setIfInBounds_toArray, List.set_cons_zero, List.set_cons_succ]
  refine wpAnyH_take (i := 2) (v := ?_) (by simp only [List.getElem?_toArray, List.getElem?_cons_succ, List.getElem?_cons_zero]; rfl) (by kernel_rfl) (by kernel_rfl) (by kernel_rfl) (fun _ _ _ h => h) (Or.inl ⟨by rfl, ?_⟩) (by assumption) ?_
  rotate_left 1
  · intro w hSw; (try dsimp only at hSw); go_simp; (try with_reducible rfl)
  try simp only [Act.put, List.setIfInBounds_toArray, List.set_cons_zero, List.set_cons_succ]
  refine wpAnyH_take (i := 3) (v := ?_) (by simp only [List.getElem?_toArray, List.getElem?_cons_succ, List.getElem?_cons_zero]; rfl) (by kernel_rfl) (by kernel_rfl) (by kernel_rfl) (fun _ _ _ h => h) (Or.inl ⟨by rfl, ?_⟩) (by assumption) ?_
  rotate_left 1
  · intro w hSw; (try dsimp only at hSw); go_simp; (try with_reducible rfl)
  try simp only [Act.put, List.setIfInBounds_toArray, List.set_cons_zero, List.set_cons_succ]
  refine wpAnyH_take (i := 4) (v := ?_) (by simp only [List.getElem?_toArray, List.getElem?_cons_succ, List.getElem?_cons_zero]; rfl) (by kernel_rfl) (by kernel_rfl) (by kernel_rfl) (fun _ _ _ h => h) (Or.inl ⟨by rfl, ?_⟩) (by assumption) ?_
  rotate_left 1
  · intro w hSw; (try dsimp only at hSw); go_simp; (try with_reducible rfl)
  try simp only [Act.put, List.setIfInBounds_toArray, List.set_cons_zero, List.set_cons_succ]
  refine wpAnyH_take (i := 5) (v := ?_) (by simp only [List.getElem?_toArray, List.getElem?_cons_succ, List.getElem?_cons_zero]; rfl) (by kernel_rfl) (by kernel_rfl) (by kernel_rfl) (fun _ _ _ h => h) (Or.inl ⟨by rfl, ?_⟩) (by assumption) ?_
  rotate_left 1
  · intro w hSw; (try dsimp only at hSw); go_simp; (try with_reducible rfl)
  try simp only [Act.put, List.setIfInBounds_toArray, List.set_cons_zero, List.set_cons_succ]
  refine wpAnyH_ready (rs := [6]) (by kernel_rfl) (by simp) ?_
  refine AllReadyH.cons (by simp only [List.getElem?_toArray, List.getElem?_cons_succ, List.getElem?_cons_zero]; rfl) (fun K hK => ?_) AllReadyH.nil
  go_simp
  go_at_call 13
  with_reducible refine (SA.out _ TT.out).mono ?_
  rintro e w8 ⟨rfl, t8⟩
  replace TT := hid (TT.out.trans t8 (by simp))
  replace cf0 := HCF.out _ TT.out
  clear t8
  go_wp2_with fail
  clear hHeld
  refine hK.out _ _ cf0 (fun hHeld => ?_)
  clear hK K
  try simp only [Act.put, List.setIfInBounds_toArray, List.set_cons_zero, List.set_cons_succ]
  refine wpAnyH_take (i := 7) (v := ?_) (by simp only [List.getElem?_toArray, List.getElem?_cons_succ, List.getElem?_cons_zero]; rfl) (by kernel_rfl) (by kernel_rfl) (by kernel_rfl) (fun _ _ _ h => h) (Or.inl ⟨by rfl, ?_⟩) (by assumption) ?_
  rotate_left 1
  · intro w hSw; (try dsimp only at hSw); go_simp; (try with_reducible rfl)
  try simp only [Act.put, List.setIfInBounds_toArray, List.set_cons_zero, List.set_cons_succ]
  refine wpAnyH_take (i := 8) (v := ?_) (by simp only [List.getElem?_toArray, List.getElem?_cons_succ, List.getElem?_cons_zero]; rfl) (by kernel_rfl) (by kernel_rfl) (by kernel_rfl) (fun _ _ _ h => h) (Or.inl ⟨by rfl, ?_⟩) (by assumption) ?_
  rotate_left 1
  · intro w hSw; (try dsimp only at hSw); go_simp; (try with_reducible rfl)
  try simp only [Act.put, List.setIfInBounds_toArray, List.set_cons_zero, List.set_cons_succ]
  refine wpAnyH_take (i := 9) (v := ?_) (by simp only [List.getElem?_toArray, List.getElem?_cons_succ, List.getElem?_cons_zero]; rfl) (by kernel_rfl) (by kernel_rfl) (by kernel_rfl) (fun _ _ _ h => h) (Or.inl ⟨by rfl, ?_⟩) (by assumption) ?_
  rotate_left 1
  · intro w hSw; (try dsimp only at hSw); go_simp; (try with_reducible rfl)
  try simp only [Act.put, List.setIfInBounds_toArray, List.set_cons_zero, List.set_cons_succ]
  refine wpAnyH_take (i := 10) (v := ?_) (by simp only [List.getElem?_toArray, List.getElem?_cons_succ, List.getElem?_cons_zero]; rfl) (by kernel_rfl) (by kernel_rfl) (by kernel_rfl) (fun _ _ _ h => h) (Or.inl ⟨by rfl, ?_⟩) (by assumption) ?_
  rotate_left 1
  · intro w hSw; (try dsimp only at hSw); go_simp; (try with_reducible rfl)
  try simp only [Act.put, List.setIfInBounds_toArray, List.set_cons_zero, List.set_cons_succ]
  refine wpAnyH_take (i := 11) (v := ?_) (by simp only [List.getElem?_toArray, List.getElem?_cons_succ, List.getElem?_cons_zero]; rfl) (by kernel_rfl) (by kernel_rfl) (by kernel_rfl) (fun _ _ _ h => h) (Or.inl ⟨by rfl, ?_⟩) (by assumption) ?_
  rotate_left 1
  · intro w hSw; (try dsimp only at hSw); go_simp; (try with_reducible rfl)
  try simp only [Act.put, List.setIfInBounds_toArray, List.set_cons_zero, List.set_cons_succ]
  refine wpAnyH_take (i := 12) (v := ?_) (by simp only [List.getElem?_toArray, List.getElem?_cons_succ, List.getElem?_cons_zero]; rfl) (by kernel_rfl) (by kernel_rfl) (by kernel_rfl) (fun _ _ _ h => h) (Or.inl ⟨by rfl, ?_⟩) (by assumption) ?_
  rotate_left 1
  · intro w hSw; (try dsimp only at hSw); go_simp; (try with_reducible rfl)
  try simp only [Act.put, List.setIfInBounds_toArray, List.set_cons_zero, List.set_cons_succ]
  refine wpAnyH_ready (rs := [13]) (by kernel_rfl) (by simp) ?_
  refine AllReadyH.cons (by simp only [List.getElem?_toArray, List.getElem?_cons_succ, List.getElem?_cons_zero]; rfl) (fun K hK => ?_) AllReadyH.nil
  go_simp
  go_at_call 19
  with_reducible refine (BY.out _ TT.out).mono ?_
  rintro e w8 ⟨sv, rfl, ob, t8⟩
  have cv := conv_own ob
  rw [← HS3.out] at cv
  replace TT := hid (TT.out.trans t8 (by simp))
  replace cf0 := HCF.out _ TT.out
  clear ob t8
  go_wp2_with fail
  clear hHeld
  refine hK.out _ _ cf0 (fun hHeld => ?_)
  clear hK K
  try simp only [Act.put, List.setIfInBounds_toArray, List.set_cons_zero, List.set_cons_succ]
  refine wpAnyH_ready (rs := [14]) (by kernel_rfl) (by simp) ?_
  refine AllReadyH.cons (by simp only [List.getElem?_toArray, List.getElem?_cons_succ, List.getElem?_cons_zero]; rfl) (fun K hK => ?_) AllReadyH.nil
  go_simp
  clear hHeld
  refine hK.out _ _ cf0 (fun hHeld => ?_)
  clear hK K
  try simp only [Act.put, List.setIfInBounds_toArray, List.set_cons_zero, List.set_cons_succ]
  refine wpAnyH_take (i := 15) (v := ?_) (by simp only [List.getElem?_toArray, List.getElem?_cons_succ, List.getElem?_cons_zero]; rfl) (by kernel_rfl) (by kernel_rfl) (by kernel_rfl) (fun _ _ _ h => h) (Or.inl ⟨by rfl, ?_⟩) (by assumption) ?_
  rotate_left 1
  · intro w hSw; (try dsimp only at hSw); go_simp; (try with_reducible rfl)
  try simp only [Act.put, List.setIfInBounds_toArray, List.set_cons_zero, List.set_cons_succ]
  refine wpAnyH_take (i := 16) (v := ?_) (by simp only [List.getElem?_toArray, List.getElem?_cons_succ, List.getElem?_cons_zero]; rfl) (by kernel_rfl) (by kernel_rfl) (by kernel_rfl) (fun _ _ _ h => h) (Or.inl ⟨by rfl, ?_⟩) (by assumption) ?_
  rotate_left 1
  · intro w hSw; (try dsimp only at hSw); go_simp; (try with_reducible rfl)
  try simp only [Act.put, List.setIfInBounds_toArray, List.set_cons_zero, List.set_cons_succ]
  refine wpAnyH_done (by kernel_rfl) ?_ _
  refine NoPanic.normal ?_
  have U17 := hid (U16.out.trans TT.out (by simp))
  have OX17 := hid (OX16.out.touch TT.out (by simp))
  have OK17 := hid (OK16.out.touch TT.out (by simp))
  have F17 := hid (F1.out.touch U17.out (by simp))
  have BX : Hid (∀ k, (Value.slice sx2 m cx2).ownBlock = some k → gf < k) := fun k hk => by
    have := (OX16.out.lt k hk).1
    have := U15.out.size
    have := HGL.out
    omega
  have BK : Hid (∀ k, (Value.slice sk m ck').ownBlock = some k → gf < k) := fun k hk => by
    have := (LK.out k hk).1
    have := HSS.out
    have := HGL.out
    omega
  have HL3 : Hid ((l ++ [111, 112, 113]).length = n + 3) := by show _ = _; rw [List.length_append, HL.out]; rfl
  have HLT3 : Hid (∀ x ∈ l ++ [111, 112, 113], x < 256) := fun x hx => by
    rcases List.mem_append.1 hx with h | h
    · exact HLT.out x h
    · simp at h
      omega
  have T17 := hid (T1.out.trans U17.out (by simp))
  obtain ⟨w17, h17⟩ : ∃ W, W = w8 := ⟨_, rfl⟩
  rw [← h17] at U17 OX17 OK17 F17 T17 ⊢
  clear SA BY HCF cf0 cv hHeld TT U16 OX16 OK16 OK7 HE1 HR1 F1 HRF FC CW HS3 U15 LK HSS h17 HL HLT U7
  go_wp2_with fail
  go_loopw [22] (fun i W => ∃ (k : Nat) (l2 : List Nat), k ≤ n + 3 ∧ i = .int .i64 k ∧ l2.length = n + 3 ∧ (∀ x ∈ l2, x < 256) ∧ OwnB W w.heap.size (.slice (some ⟨gf, 0, none⟩) (n + 3) cf) l2 ∧ Touch [gf] w17 W) (fun i _ => n + 3 - (intOf i).toNat)
  case atStart => exact ⟨0, _, Nat.zero_le _, rfl, HL3.out, HLT3.out, F17.out, Touch.refl _ _⟩
  case round =>
    obtain ⟨k, l2, hk, rfl, h1, h2, h3, h4⟩ := hrel
    by_cases hlt : k < n + 3
    · have hj : k < l2.length := by omega
      have h3' : OwnB wr w.heap.size (.slice (some ⟨gf, 0, none⟩) l2.length cf) l2 := by rw [h1]; exact h3
      obtain ⟨o1, _, hf⟩ := h3'.set hj (l2[k] ^^^ 1)
      obtain ⟨g', c', e', _, _, _, hr⟩ := h3'.rd (by omega)
      simp only [Value.slice.injEq, Option.some.injEq, Addr.mk.injEq, and_true, true_and] at e'
      have hc := hr k hj
      rw [Nat.zero_add, ← e'.1] at hc
      have hx := h2 _ (List.getElem_mem hj)
      have HLS : Hid ((l2.set k (l2[k] ^^^ 1)).length = n + 3) := by show _ = _; rw [List.length_set]; exact h1
      have HMS : Hid (∀ y ∈ l2.set k (l2[k] ^^^ 1), y < 256) := fun y hy => by
        rcases List.mem_or_eq_of_mem_set hy with h | rfl
        · exact h2 y h
        · exact Nat.xor_lt_two_pow (n := 8) hx (by decide)
      rw [HLS.out] at o1
      obtain ⟨x, hxd⟩ : ∃ x, x = l2[k] := ⟨_, rfl⟩
      rw [← hxd] at hc hx HLS HMS o1
      have HXR : Hid (bits BinOp.xor IntKind.u8 (x : Int) 1 = ((x ^^^ 1 : Nat) : Int)) := u8_xor_nat x 1 hx (by decide)
      have O1 := hid o1
      have H4 := hid h4
      clear h1 h2 h3 h3' h4 o1 e' hr hxd hj
      go_wp2_with fail
      rw [HXR.out]
      exact ⟨⟨k + 1, _, hlt, rfl, HLS.out, HMS.out, O1.out, H4.out.setCell (.inl (by simp)) _⟩, by simp [intOf]; omega⟩
    · have e : k = n + 3 := by omega
      subst e
      have hT : Touch [] w wr := T17.out.trans h4 (fun b hb => Or.inr (by simp at hb; subst hb; exact HGF.out))
      obtain ⟨_, _, e1, _, r1⟩ := (OX17.out.touch h4 (fun k hk hb => by simp at hb; have := BX.out k hk; omega)).shape
      obtain ⟨_, _, e2, _, r2⟩ := (OK17.out.touch h4 (fun k hk hb => by simp at hb; have := BK.out k hk; omega)).shape
      simp only [Value.slice.injEq, true_and] at e1 e2
      rw [← e1.1] at r1
      rw [← e2.1] at r2
      have SM := hid (same_true cx2 ck' r1 r2 (by omega))
      obtain ⟨g', c', e', _, hgl', _, hr⟩ := h3.rd (by omega)
      simp only [Value.slice.injEq, Option.some.injEq, Addr.mk.injEq, and_true] at e'
      rw [← e'.1] at hr hgl'
      obtain ⟨l3, hl3⟩ : ∃ l3, l3 = l2.take n := ⟨_, rfl⟩
      have hlen3 : l3.length = n := by rw [hl3, List.length_take]; omega
      have hlt3 : ∀ x ∈ l3, x < 256 := fun x hx => h2 x (List.mem_of_mem_take (by rw [← hl3]; exact hx))
      have hcm : Came wr (some ⟨gf, 0, none⟩) n cf l3 := front_came (m := l2.drop n) (by rw [hl3, List.take_append_drop]; exact hr) hgl' hlen3 hcf' hlt3
      obtain ⟨er3, m3, ws3, hm3, hw3, E3, R3⟩ := P3.out l3 hlen3 hlt3
      have HT := hid hT
      have HC := hid hcm
      have HR2 := hid hr
      have HGW := hid hgl'
      have HN3 := hid hlen3
      have HB3 := hid hlt3
      have HE3 := hid E3
      have HR3 := hid R3
      have HW3 := hid hw3
      clear h1 h2 h3 h4 hT r1 r2 e1 e2 e' hr hgl' hl3 hlen3 hlt3 hcm E3 R3 hw3 P3 OX17 OK17 BX BK F17 U17 T17 HL3 HLT3 hlt hk
      have CF : Hid (∀ W, Touch [] wr W → Came W (some ⟨gf, 0, none⟩) n cf l3) := fun W ht => HC.out.touch ht (by simp)
      obtain ⟨S4, hS4⟩ : ∃ S, S = strOf l3 := ⟨_, rfl⟩
      have HCV : Hid (∀ W, Touch [] wr W → (convert 22 9 (.slice (some ⟨gf, 0, none⟩) n cf)).run Try.prog W = .ok (.string S4) W) := fun W ht => by
        have hh := conv_any (l := l3) (b := gf) (o := 0) cf (w := W) (by
          have hc := CF.out W ht
          intro i hi
          obtain ⟨b, o, eb, _, hrr⟩ := hc.at_ (by have := HN3.out; omega)
          simp only [Option.some.injEq, Addr.mk.injEq, and_true] at eb
          rw [eb.1, eb.2]
          exact hrr i hi)
        rw [HN3.out, ← hS4] at hh
        exact hh
      have HBK : Hid (∀ W, ∃ c W', (convert 9 22 (.string S4)).run Try.prog W = .ok (.slice (some ⟨W.heap.size, 0, none⟩) n c) W' ∧ Came W' (some ⟨W.heap.size, 0, none⟩) n c l3 ∧ Touch [] W W') := fun W => by
        have hh := back_bytes l3 HB3.out W
        rw [HN3.out, ← hS4] at hh
        exact hh
      clear hS4
      go_wp2_with fail
      with_reducible refine SM.out.mono ?_
      rintro e w18 ⟨rfl, q18, hq18⟩
      have T18 := hid (show Touch [] wr w18 by rw [hq18]; exact (Touch.refl _ _).drewN _)
      clear hq18 SM
      have cv1 := HCV.out w18 T18.out
      obtain ⟨cb, w19, cv2, ca19, t19⟩ := HBK.out w18
      have CA19 := hid ca19
      have T19 := hid (T18.out.trans t19 (by simp))
      clear ca19 t19
      go_wp2_with fail
      with_reducible refine (HR3.out w19 _ cb CA19.out).mono ?_
      rintro e w20 ⟨k3, rfl, ok3, t20⟩
      obtain ⟨sk3, ck3, ek, _, _⟩ := ok3.shape
      subst ek
      have OK3 := hid ok3
      have T20 := hid (T19.out.trans t20 (by simp))
      clear ok3 t20 cv1 cv2 CA19
      go_wp2_with fail
      with_reducible refine (HE3.out w20 _ cf (CF.out w20 T20.out)).mono ?_
      rintro e w21 ⟨x3, rfl, ox3, t21⟩
      obtain ⟨sx3, cx3, ex, _, _⟩ := ox3.shape
      subst ex
      have OX21 := hid ox3
      have OK21 := hid (OK3.out.touch t21 (by simp))
      have T21 := hid (T20.out.trans t21 (by simp))
      clear ox3 t21 OK3 HE3 HR3
      go_wp2_with fail
      have SA : Hid (∀ W, Touch [] w21 W → Calls Try.prog 13 #[.slice sx3 m3 cx3, .slice sk3 m3 ck3] W fun e w' => e = .returned (.bool true) ∧ Touch [] W w') := fun W ht => by
        obtain ⟨_, _, e1, _, r1⟩ := (OX21.out.touch ht (by simp)).shape
        obtain ⟨_, _, e2, _, r2⟩ := (OK21.out.touch ht (by simp)).shape
        simp only [Value.slice.injEq, true_and] at e1 e2
        rw [← e1.1] at r1
        rw [← e2.1] at r2
        exact (same_true cx3 ck3 r1 r2 (by omega)).mono fun e w' hh => ⟨hh.1, by obtain ⟨q, hq⟩ := hh.2; rw [hq]; exact (Touch.refl _ _).drewN _⟩
      have HCF : Hid (∀ W, Touch [] w21 W → (convert 22 9 (.slice (some ⟨gf, 0, none⟩) n cf)).run Try.prog W = .ok (.string S4) W) := fun W ht => HCV.out W (T21.out.trans ht (by simp))
      have SU : Hid (∀ W, Touch [] w21 W → Calls Try.prog 21 #[.slice (some ⟨gf, 0, none⟩) n cf] W fun e w' => e = .returned (.int .u32 (crc l3 : Int)) ∧ Touch [] W w') := fun W ht => by
        have htt := T21.out.trans ht (by simp)
        have hc := CF.out W htt
        have hh := sum_big l3 gf 0 cf W (by
          intro i hi
          obtain ⟨b, o, eb, _, hrr⟩ := hc.at_ (by have := HN3.out; omega)
          simp only [Option.some.injEq, Addr.mk.injEq, and_true] at eb
          rw [eb.1, eb.2]
          exact hrr i hi) (Nat.lt_of_lt_of_le HGW.out htt.size) HB3.out (by rw [HN3.out]; omega)
        rw [HN3.out] at hh
        exact hh
      have SV : Hid (∀ W g cc, Came W (some ⟨g, 0, none⟩) n cc l3 → Calls Try.prog 22 #[.slice (some ⟨g, 0, none⟩) n cc] W fun e w' => e = .returned (.int .u32 (crc l3 : Int)) ∧ Touch [] W w') := fun W g cc hc =>
        (rsum_came_big hc (by omega)).mono fun e w' hh => ⟨hh.1, by rw [hh.2]; exact Touch.refl _ _⟩
      have TT := hid (show Touch [] w21 w21.drew from (Touch.refl _ _).drew)
      have cf0 := HCF.out _ TT.out
      obtain ⟨cr3, hcr3⟩ : ∃ cr, cr = crc l3 := ⟨_, rfl⟩
      rw [← hcr3] at SU SV
      clear hcr3 HCV OX21 OK21 T19 T20 T18 CF
      refine wp_region_noPanic ?_
      refine wp_region_held_drew (S := fun W => (convert 22 9 (.slice (some ⟨gf, 0, none⟩) n cf)).run Try.prog W = .ok (.string S4) W) (by kernel_rfl) cf0 (fun hHeld => ?_)
      refine wpAnyH_take (i := 0) (v := ?_) (by simp only [List.getElem?_toArray, List.getElem?_cons_zero]; rfl) (by kernel_rfl) (by kernel_rfl) (by kernel_rfl) (fun _ _ _ h => h) (Or.inl ⟨by rfl, ?_⟩) (by assumption) ?_
      rotate_left 1
      · intro w hSw; (try dsimp only at hSw); go_simp; (try with_reducible rfl)
      try simp only [Act.put, List.setIfInBounds_toArray, List.set_cons_zero, List.set_cons_succ]
      refine wpAnyH_take (i := 1) (v := ?_) (by simp only [List.getElem?_toArray, List.getElem?_cons_succ, List.getElem?_cons_zero]; rfl) (by kernel_rfl) (by kernel_rfl) (by kernel_rfl) (fun _ _ _ h => h) (Or.inl ⟨by rfl, ?_⟩) (by assumption) ?_
      rotate_left 1
      · intro w hSw; (try dsimp only at hSw); go_simp; (try with_reducible rfl)
      try simp only [Act.put, List.setIfInBounds_toArray, List.set_cons_zero, List.set_cons_succ]
      refine wpAnyH_take (i := 2) (v := ?_) (by simp only [List.getElem?_toArray, List.getElem?_cons_succ, List.getElem?_cons_zero]; rfl) (by kernel_rfl) (by kernel_rfl) (by kernel_rfl) (fun _ _ _ h => h) (Or.inl ⟨by rfl, ?_⟩) (by assumption) ?_
      rotate_left 1
      · intro w hSw; (try dsimp only at hSw); go_simp; (try with_reducible rfl)
      try simp only [Act.put, List.setIfInBounds_toArray, List.set_cons_zero, List.set_cons_succ]
      refine wpAnyH_take (i := 3) (v := ?_) (by simp only [List.getElem?_toArray, List.getElem?_cons_succ, List.getElem?_cons_zero]; rfl) (by kernel_rfl) (by kernel_rfl) (by kernel_rfl) (fun _ _ _ h => h) (Or.inl ⟨by rfl, ?_⟩) (by assumption) ?_
      rotate_left 1
      · intro w hSw; (try dsimp only at hSw); go_simp; (try with_reducible rfl)
      try simp only [Act.put, List.setIfInBounds_toArray, List.set_cons_zero, List.set_cons_succ]
      refine wpAnyH_take (i := 4) (v := ?_) (by simp only [List.getElem?_toArray, List.getElem?_cons_succ, List.getElem?_cons_zero]; rfl) (by kernel_rfl) (by kernel_rfl) (by kernel_rfl) (fun _ _ _ h => h) (Or.inl ⟨by rfl, ?_⟩) (by assumption) ?_
      rotate_left 1
      · intro w hSw; (try dsimp only at hSw); go_simp; (try with_reducible rfl)
      try simp only [Act.put, List.setIfInBounds_toArray, List.set_cons_zero, List.set_cons_succ]
      refine wpAnyH_take (i := 5) (v := ?_) (by simp only [List.getElem?_toArray, List.getElem?_cons_succ, List.getElem?_cons_zero]; rfl) (by kernel_rfl) (by kernel_rfl) (by kernel_rfl) (fun _ _ _ h => h) (Or.inl ⟨by rfl, ?_⟩) (by assumption) ?_
      rotate_left 1
      · intro w hSw; (try dsimp only at hSw); go_simp; (try with_reducible rfl)
      try simp only [Act.put, List.setIfInBounds_toArray, List.set_cons_zero, List.set_cons_succ]
      refine wpAnyH_ready (rs := [6]) (by kernel_rfl) (by simp) ?_
      refine AllReadyH.cons (by simp only [List.getElem?_toArray, List.getElem?_cons_succ, List.getElem?_cons_zero]; rfl) (fun K hK => ?_) AllReadyH.nil
      go_simp
      go_at_call 13
      with_reducible refine (SA.out _ TT.out).mono ?_
      rintro e w8 ⟨rfl, t8⟩
      replace TT := hid (TT.out.trans t8 (by simp))
      replace cf0 := HCF.out _ TT.out
      clear t8
      go_wp2_with fail
      clear hHeld
      refine hK.out _ _ cf0 (fun hHeld => ?_)
      clear hK K
      try simp only [Act.put, List.setIfInBounds_toArray, List.set_cons_zero, List.set_cons_succ]
      refine wpAnyH_take (i := 7) (v := ?_) (by simp only [List.getElem?_toArray, List.getElem?_cons_succ, List.getElem?_cons_zero]; rfl) (by kernel_rfl) (by kernel_rfl) (by kernel_rfl) (fun _ _ _ h => h) (Or.inl ⟨by rfl, ?_⟩) (by assumption) ?_
      rotate_left 1
      · intro w hSw; (try dsimp only at hSw); go_simp; (try with_reducible rfl)
      try simp only [Act.put, List.setIfInBounds_toArray, List.set_cons_zero, List.set_cons_succ]
      refine wpAnyH_take (i := 8) (v := ?_) (by simp only [List.getElem?_toArray, List.getElem?_cons_succ, List.getElem?_cons_zero]; rfl) (by kernel_rfl) (by kernel_rfl) (by kernel_rfl) (fun _ _ _ h => h) (Or.inl ⟨by rfl, ?_⟩) (by assumption) ?_
      rotate_left 1
      · intro w hSw; (try dsimp only at hSw); go_simp; (try with_reducible rfl)
      try simp only [Act.put, List.setIfInBounds_toArray, List.set_cons_zero, List.set_cons_succ]
      refine wpAnyH_take (i := 9) (v := ?_) (by simp only [List.getElem?_toArray, List.getElem?_cons_succ, List.getElem?_cons_zero]; rfl) (by kernel_rfl) (by kernel_rfl) (by kernel_rfl) (fun _ _ _ h => h) (Or.inl ⟨by rfl, ?_⟩) (by assumption) ?_
      rotate_left 1
      · intro w hSw; (try dsimp only at hSw); go_simp; (try with_reducible rfl)
      try simp only [Act.put, List.setIfInBounds_toArray, List.set_cons_zero, List.set_cons_succ]
      refine wpAnyH_take (i := 10) (v := ?_) (by simp only [List.getElem?_toArray, List.getElem?_cons_succ, List.getElem?_cons_zero]; rfl) (by kernel_rfl) (by kernel_rfl) (by kernel_rfl) (fun _ _ _ h => h) (Or.inl ⟨by rfl, ?_⟩) (by assumption) ?_
      rotate_left 1
      · intro w hSw; (try dsimp only at hSw); go_simp; (try with_reducible rfl)
      try simp only [Act.put, List.setIfInBounds_toArray, List.set_cons_zero, List.set_cons_succ]
      refine wpAnyH_take (i := 11) (v := ?_) (by simp only [List.getElem?_toArray, List.getElem?_cons_succ, List.getElem?_cons_zero]; rfl) (by kernel_rfl) (by kernel_rfl) (by kernel_rfl) (fun _ _ _ h => h) (Or.inl ⟨by rfl, ?_⟩) (by assumption) ?_
      rotate_left 1
      · intro w hSw; (try dsimp only at hSw); go_simp; (try with_reducible rfl)
      try simp only [Act.put, List.setIfInBounds_toArray, List.set_cons_zero, List.set_cons_succ]
      refine wpAnyH_take (i := 12) (v := ?_) (by simp only [List.getElem?_toArray, List.getElem?_cons_succ, List.getElem?_cons_zero]; rfl) (by kernel_rfl) (by kernel_rfl) (by kernel_rfl) (fun _ _ _ h => h) (Or.inl ⟨by rfl, ?_⟩) (by assumption) ?_
      rotate_left 1
      · intro w hSw; (try dsimp only at hSw); go_simp; (try with_reducible rfl)
      try simp only [Act.put, List.setIfInBounds_toArray, List.set_cons_zero, List.set_cons_succ]
      refine wpAnyH_take (i := 14) (v := ?_) (by simp only [List.getElem?_toArray, List.getElem?_cons_succ, List.getElem?_cons_zero]; rfl) (by kernel_rfl) (by kernel_rfl) (by kernel_rfl) (fun _ _ _ h => h) (Or.inl ⟨by rfl, ?_⟩) (by assumption) ?_
      rotate_left 1
      · intro w hSw; (try dsimp only at hSw); go_simp; (try with_reducible rfl)
      try simp only [Act.put, List.setIfInBounds_toArray, List.set_cons_zero, List.set_cons_succ]
      refine wpAnyH_take (i := 15) (v := ?_) (by simp only [List.getElem?_toArray, List.getElem?_cons_succ, List.getElem?_cons_zero]; rfl) (by kernel_rfl) (by kernel_rfl) (by kernel_rfl) (fun _ _ _ h => h) (Or.inl ⟨by rfl, ?_⟩) (by assumption) ?_
      rotate_left 1
      · intro w hSw; (try dsimp only at hSw); go_simp; (try with_reducible rfl)
      try simp only [Act.put, List.setIfInBounds_toArray, List.set_cons_zero, List.set_cons_succ]
      refine wpAnyH_take (i := 16) (v := ?_) (by simp only [List.getElem?_toArray, List.getElem?_cons_succ, List.getElem?_cons_zero]; rfl) (by kernel_rfl) (by kernel_rfl) (by kernel_rfl) (fun _ _ _ h => h) (Or.inl ⟨by rfl, ?_⟩) (by assumption) ?_
      rotate_left 1
      · intro w hSw; (try dsimp only at hSw); go_simp; (try with_reducible rfl)
      try simp only [Act.put, List.setIfInBounds_toArray, List.set_cons_zero, List.set_cons_succ]
      refine wpAnyH_take (i := 17) (v := ?_) (by simp only [List.getElem?_toArray, List.getElem?_cons_succ, List.getElem?_cons_zero]; rfl) (by kernel_rfl) (by kernel_rfl) (by kernel_rfl) (fun _ _ _ h => h) (Or.inl ⟨by rfl, ?_⟩) (by assumption) ?_
      rotate_left 1
      · intro w hSw; (try dsimp only at hSw); go_simp; (try with_reducible rfl)
      try simp only [Act.put, List.setIfInBounds_toArray, List.set_cons_zero, List.set_cons_succ]
      refine wpAnyH_take (i := 18) (v := ?_) (by simp only [List.getElem?_toArray, List.getElem?_cons_succ, List.getElem?_cons_zero]; rfl) (by kernel_rfl) (by kernel_rfl) (by kernel_rfl) (fun _ _ _ h => h) (Or.inl ⟨by rfl, ?_⟩) (by assumption) ?_
      rotate_left 1
      · intro w hSw; (try dsimp only at hSw); go_simp; (try with_reducible rfl)
      try simp only [Act.put, List.setIfInBounds_toArray, List.set_cons_zero, List.set_cons_succ]
      refine wpAnyH_ready (rs := [13, 19]) (by kernel_rfl) (by simp) ?_
      refine AllReadyH.cons (by simp only [List.getElem?_toArray, List.getElem?_cons_succ, List.getElem?_cons_zero]; rfl) (fun K hK => ?_) (AllReadyH.cons (by simp only [List.getElem?_toArray, List.getElem?_cons_succ, List.getElem?_cons_zero]; rfl) (fun K hK => ?_) AllReadyH.nil)
      · go_simp
        go_at_call 21
        with_reducible refine (SU.out _ TT.out).mono ?_
        rintro e w8 ⟨rfl, t8⟩
        replace TT := hid (TT.out.trans t8 (by simp))
        replace cf0 := HCF.out _ TT.out
        clear t8
        go_wp2_with fail
        clear hHeld
        refine hK.out _ _ cf0 (fun hHeld => ?_)
        clear hK K
        try simp only [Act.put, List.setIfInBounds_toArray, List.set_cons_zero, List.set_cons_succ]
        obtain ⟨cb2, w22, cv2, ca22, t22⟩ := HBK.out w8
        refine wpAnyH_ready (rs := [19]) (by kernel_rfl) (by simp) ?_
        refine AllReadyH.cons (by simp only [List.getElem?_toArray, List.getElem?_cons_succ, List.getElem?_cons_zero]; rfl) (fun K hK => ?_) AllReadyH.nil
        go_simp
        have CA22 := hid ca22
        replace TT := hid (TT.out.trans t22 (by simp))
        replace cf0 := HCF.out _ TT.out
        clear ca22 t22 cv2
        clear hHeld
        refine hK.out _ _ cf0 (fun hHeld => ?_)
        clear hK K
        try simp only [Act.put, List.setIfInBounds_toArray, List.set_cons_zero, List.set_cons_succ]
        refine wpAnyH_ready (rs := [20]) (by kernel_rfl) (by simp) ?_
        refine AllReadyH.cons (by simp only [List.getElem?_toArray, List.getElem?_cons_succ, List.getElem?_cons_zero]; rfl) (fun K hK => ?_) AllReadyH.nil
        go_simp
        go_at_call 22
        with_reducible refine (SV.out _ _ _ CA22.out).mono ?_
        rintro e w8 ⟨rfl, t8⟩
        replace TT := hid (TT.out.trans t8 (by simp))
        replace cf0 := HCF.out _ TT.out
        clear t8
        go_wp2_with fail
        clear hHeld
        refine hK.out _ _ cf0 (fun hHeld => ?_)
        clear hK K
        try simp only [Act.put, List.setIfInBounds_toArray, List.set_cons_zero, List.set_cons_succ]
        refine wpAnyH_take (i := 21) (v := ?_) (by simp only [List.getElem?_toArray, List.getElem?_cons_succ, List.getElem?_cons_zero]; rfl) (by kernel_rfl) (by kernel_rfl) (by kernel_rfl) (fun _ _ _ h => h) (Or.inl ⟨by rfl, ?_⟩) (by assumption) ?_
        rotate_left 1
        · intro w hSw; (try dsimp only at hSw); go_simp; (try with_reducible rfl)
        try simp only [Act.put, List.setIfInBounds_toArray, List.set_cons_zero, List.set_cons_succ]
        refine wpAnyH_take (i := 22) (v := ?_) (by simp only [List.getElem?_toArray, List.getElem?_cons_succ, List.getElem?_cons_zero]; rfl) (by kernel_rfl) (by kernel_rfl) (by kernel_rfl) (fun _ _ _ h => h) (Or.inl ⟨by rfl, ?_⟩) (by assumption) ?_
        rotate_left 1
        · intro w hSw; (try dsimp only at hSw); go_simp; (try with_reducible rfl)
        try simp only [Act.put, List.setIfInBounds_toArray, List.set_cons_zero, List.set_cons_succ]
        refine wpAnyH_take (i := 23) (v := ?_) (by simp only [List.getElem?_toArray, List.getElem?_cons_succ, List.getElem?_cons_zero]; rfl) (by kernel_rfl) (by kernel_rfl) (by kernel_rfl) (fun _ _ _ h => h) (Or.inl ⟨by rfl, ?_⟩) (by assumption) ?_
        rotate_left 1
        · intro w hSw; (try dsimp only at hSw); go_simp; (try with_reducible rfl)
        try simp only [Act.put, List.setIfInBounds_toArray, List.set_cons_zero, List.set_cons_succ]
        refine wpAnyH_done (by kernel_rfl) ?_ _
        refine NoPanic.normal ?_
        go_wp2_with fail
        first | exact ⟨rfl, HT.out.trans (T21.out.trans TT.out (by simp)) (by simp)⟩ | (go_ret; exact ⟨rfl, HT.out.trans (T21.out.trans TT.out (by simp)) (by simp)⟩)
      · obtain ⟨cb2, w22, cv2, ca22, t22⟩ := HBK.out w8
        go_simp
        have CA22 := hid ca22
        replace TT := hid (TT.out.trans t22 (by simp))
        replace cf0 := HCF.out _ TT.out
        clear ca22 t22 cv2
        clear hHeld
        refine hK.out _ _ cf0 (fun hHeld => ?_)
        clear hK K
        try simp only [Act.put, List.setIfInBounds_toArray, List.set_cons_zero, List.set_cons_succ]
        refine wpAnyH_ready (rs := [13]) (by kernel_rfl) (by simp) ?_
        refine AllReadyH.cons (by simp only [List.getElem?_toArray, List.getElem?_cons_succ, List.getElem?_cons_zero]; rfl) (fun K hK => ?_) AllReadyH.nil
        go_simp
        go_at_call 21
        with_reducible refine (SU.out _ TT.out).mono ?_
        rintro e w8 ⟨rfl, t8⟩
        replace CA22 := hid (CA22.out.touch t8 (by simp))
        replace TT := hid (TT.out.trans t8 (by simp))
        replace cf0 := HCF.out _ TT.out
        clear t8
        go_wp2_with fail
        clear hHeld
        refine hK.out _ _ cf0 (fun hHeld => ?_)
        clear hK K
        try simp only [Act.put, List.setIfInBounds_toArray, List.set_cons_zero, List.set_cons_succ]
        refine wpAnyH_ready (rs := [20]) (by kernel_rfl) (by simp) ?_
        refine AllReadyH.cons (by simp only [List.getElem?_toArray, List.getElem?_cons_succ, List.getElem?_cons_zero]; rfl) (fun K hK => ?_) AllReadyH.nil
        go_simp
        go_at_call 22
        with_reducible refine (SV.out _ _ _ CA22.out).mono ?_
        rintro e w8 ⟨rfl, t8⟩
        replace TT := hid (TT.out.trans t8 (by simp))
        replace cf0 := HCF.out _ TT.out
        clear t8
        go_wp2_with fail
        clear hHeld
        refine hK.out _ _ cf0 (fun hHeld => ?_)
        clear hK K
        try simp only [Act.put, List.setIfInBounds_toArray, List.set_cons_zero, List.set_cons_succ]
        refine wpAnyH_take (i := 21) (v := ?_) (by simp only [List.getElem?_toArray, List.getElem?_cons_succ, List.getElem?_cons_zero]; rfl) (by kernel_rfl) (by kernel_rfl) (by kernel_rfl) (fun _ _ _ h => h) (Or.inl ⟨by rfl, ?_⟩) (by assumption) ?_
        rotate_left 1
        · intro w hSw; (try dsimp only at hSw); go_simp; (try with_reducible rfl)
        try simp only [Act.put, List.setIfInBounds_toArray, List.set_cons_zero, List.set_cons_succ]
        refine wpAnyH_take (i := 22) (v := ?_) (by simp only [List.getElem?_toArray, List.getElem?_cons_succ, List.getElem?_cons_zero]; rfl) (by kernel_rfl) (by kernel_rfl) (by kernel_rfl) (fun _ _ _ h => h) (Or.inl ⟨by rfl, ?_⟩) (by assumption) ?_
        rotate_left 1
        · intro w hSw; (try dsimp only at hSw); go_simp; (try with_reducible rfl)
        try simp only [Act.put, List.setIfInBounds_toArray, List.set_cons_zero, List.set_cons_succ]
        refine wpAnyH_take (i := 23) (v := ?_) (by simp only [List.getElem?_toArray, List.getElem?_cons_succ, List.getElem?_cons_zero]; rfl) (by kernel_rfl) (by kernel_rfl) (by kernel_rfl) (fun _ _ _ h => h) (Or.inl ⟨by rfl, ?_⟩) (by assumption) ?_
        rotate_left 1
        · intro w hSw; (try dsimp only at hSw); go_simp; (try with_reducible rfl)
        try simp only [Act.put, List.setIfInBounds_toArray, List.set_cons_zero, List.set_cons_succ]
        refine wpAnyH_done (by kernel_rfl) ?_ _
        refine NoPanic.normal ?_
        go_wp2_with fail
        first | exact ⟨rfl, HT.out.trans (T21.out.trans TT.out (by simp)) (by simp)⟩ | (go_ret; exact ⟨rfl, HT.out.trans (T21.out.trans TT.out (by simp)) (by simp)⟩)
end Go.Proofs.Ytfodpeiecmbojaa
