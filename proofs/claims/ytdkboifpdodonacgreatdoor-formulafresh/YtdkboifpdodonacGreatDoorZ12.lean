import Derived.Test.YtdkboifpdodonacGreatDoorZ11
set_option linter.unusedSimpArgs false
/-
 The landed scanner: next.
-/
namespace Go.Proofs.YtdkboifpdodonacGreatDoor
open Go.RowKit Go.Deep PureCnf PureForm PureRd
set_option maxRecDepth 100000

/-- all but one block stands as it stood. -/
structure Kr (p : Nat) (W W' : World) : Prop where
 os : W'.os = W.os
 tape : W'.tape = W.tape
 output : W'.output = W.output
 size : W.heap.size ≤ W'.heap.size
 block : ∀ k, k < W.heap.size → k ≠ p → W'.heap[k]? = W.heap[k]?
theorem Kr.refl (p : Nat) (W : World) : Kr p W W := ⟨rfl, rfl, rfl, Nat.le_refl _, fun _ _ _ => rfl⟩
theorem Kr.trans {p : Nat} {W W' W2 : World} (h : Kr p W W') (g : Kr p W' W2) : Kr p W W2 :=
 ⟨g.os.trans h.os, g.tape.trans h.tape, g.output.trans h.output, Nat.le_trans h.size g.size, fun k hk hp => (g.block k (Nat.lt_of_lt_of_le hk h.size) hp).trans (h.block k hk hp)⟩
theorem Kr.of_below {p : Nat} {W W' : World} (h : Below W.heap.size W W') : Kr p W W' := ⟨h.os, h.tape, h.output, h.size, fun k hk _ => h.block k hk⟩
theorem Kr.set {p i : Nat} {W : World} {v : Value} : Kr p W (W.setCell ⟨p, i, none⟩ v) :=
 have h : Below p W (W.setCell ⟨p, i, none⟩ v) := (Below.refl _ _).setCell (p := ⟨p, i, none⟩) (Nat.le_refl _) _
 ⟨h.os, h.tape, h.output, h.size, fun k _ hp => Below.heap_setCell W _ _ _ (by simpa using hp)⟩
theorem Kr.below {p B : Nat} {w W W' : World} (h : Below B w W) (hB : B ≤ w.heap.size) (hp : B ≤ p) (g : Kr p W W') : Below B w W' :=
 ⟨g.os.trans h.os, g.tape.trans h.tape, g.output.trans h.output, Nat.le_trans h.size g.size, fun k hk => (g.block k (by have := h.size; omega) (by omega)).trans (h.block k hk)⟩

theorem step_row {W W' : World} {p : Nat} {o : Obj} (h : W.heap[p]? = some o) (hb : Below W.heap.size W W') : W'.heap[p]? = some o := (hb.block _ (Array.getElem?_eq_some_iff.1 h).1).trans h
theorem drew_row {W : World} {p : Nat} {o : Obj} (h : W.heap[p]? = some o) : W.drew.heap[p]? = some o := h
/-- the reader's eleven cells. -/
abbrev rr (s : ByteArray) (e k n c a o m f1 f2 f3 : Int) : Array Value := #[.string s, .int .i64 e, .int .i64 k, .int .i64 n, .int .i64 c, .int .i64 a, .int .i64 o, .int .i64 m, .int .i64 f1, .int .i64 f2, .int .i64 f3]

/-- the scanner between its steps: the answer's token, the reader's cells, all else kept. -/
structure Nx (w W : World) (p : Nat) (row : Array Value) : Prop where
 z : W.heap[w.heap.size]? = some (.cells #[.int .i64 0, .int .i64 0, .int .i64 0, .int .i64 0] 84 (0, 0))
 r : W.heap[p]? = some (.cells row 86 (0, 0))
 k : Kr p w W
 hp : p < w.heap.size
theorem Nx.drew {w W : World} {p : Nat} {row : Array Value} (h : Nx w W p row) : Nx w W.drew p row :=
 ⟨h.z, h.r, ⟨h.k.os, h.k.tape, h.k.output, h.k.size, h.k.block⟩, h.hp⟩
theorem Nx.step {w W W' : World} {p : Nat} {row : Array Value} (h : Nx w W p row) (hb : Below W.heap.size W W') : Nx w W' p row :=
 ⟨step_row h.z hb, step_row h.r hb, h.k.trans (Kr.of_below hb), h.hp⟩
theorem Nx.set1 {w W : World} {p : Nat} {s : ByteArray} {e k n c a o m f1 f2 f3 : Int} (h : Nx w W p (rr s e k n c a o m f1 f2 f3)) (x : Int) : Nx w (W.setCell ⟨p, 1, none⟩ (.int .i64 x)) p (rr s x k n c a o m f1 f2 f3) := by
 refine ⟨?_, ?_, h.k.trans Kr.set, h.hp⟩
 ·rw [Below.heap_setCell W _ _ _ (by have := h.hp; simp; omega)]
  exact h.z
 ·have hb := (Array.getElem?_eq_some_iff.1 h.r).1
  simp [World.setCell, Array.getElem?_modify, h.r]
theorem Nx.tok4 {w W : World} {p b : Nat} {row : Array Value} (h : Nx w W p row) (hb : w.heap.size < b) (v0 v1 v2 v3 : Value) :
  Nx w ((((W.setCell ⟨b, 0, none⟩ v0).setCell ⟨b, 1, none⟩ v1).setCell ⟨b, 2, none⟩ v2).setCell ⟨b, 3, none⟩ v3) p row := by
 have hB : Below b W ((((W.setCell ⟨b, 0, none⟩ v0).setCell ⟨b, 1, none⟩ v1).setCell ⟨b, 2, none⟩ v2).setCell ⟨b, 3, none⟩ v3) :=
  ((((Below.refl b W).setCell (p := ⟨b, 0, none⟩) (Nat.le_refl _) _).setCell (p := ⟨b, 1, none⟩) (Nat.le_refl _) _).setCell (p := ⟨b, 2, none⟩) (Nat.le_refl _) _).setCell (p := ⟨b, 3, none⟩) (Nat.le_refl _) _
 have hp := h.hp
 exact ⟨(hB.block _ hb).trans h.z, (hB.block _ (by omega)).trans h.r, ⟨hB.os.trans h.k.os, hB.tape.trans h.k.tape, hB.output.trans h.k.output, Nat.le_trans h.k.size hB.size, fun k hk hkp => (hB.block k (by omega)).trans (h.k.block k hk hkp)⟩, hp⟩
theorem set4 {W : World} {b : Nat} {x0 x1 x2 x3 : Value} {t : TypeId} (h : W.heap[b]? = some (.cells #[x0, x1, x2, x3] t (0, 0))) (v0 v1 v2 v3 : Value) :
  ((((W.setCell ⟨b, 0, none⟩ v0).setCell ⟨b, 1, none⟩ v1).setCell ⟨b, 2, none⟩ v2).setCell ⟨b, 3, none⟩ v3).heap[b]? = some (.cells #[v0, v1, v2, v3] t (0, 0)) := by
 simp [World.setCell, Array.getElem?_modify, h]
theorem Nx.one {w W : World} {p b : Nat} {row : Array Value} (h : Nx w W p row) (hb : w.heap.size < b) (j : Nat) (v : Value) : Nx w (W.setCell ⟨b, j, none⟩ v) p row := by
 have hB : Below b W (W.setCell ⟨b, j, none⟩ v) := (Below.refl b W).setCell (p := ⟨b, j, none⟩) (Nat.le_refl _) _
 have hp := h.hp
 exact ⟨(hB.block _ hb).trans h.z, (hB.block _ (by omega)).trans h.r, ⟨hB.os.trans h.k.os, hB.tape.trans h.k.tape, hB.output.trans h.k.output, Nat.le_trans h.k.size hB.size, fun k hk hkp => (hB.block k (by omega)).trans (h.k.block k hk hkp)⟩, hp⟩
theorem Nx.fin {w W : World} {p : Nat} {row : Array Value} (h : Nx w W p row) (v0 v1 v2 v3 : Value) :
  ((((W.setCell ⟨w.heap.size, 0, none⟩ v0).setCell ⟨w.heap.size, 1, none⟩ v1).setCell ⟨w.heap.size, 2, none⟩ v2).setCell ⟨w.heap.size, 3, none⟩ v3).heap[p]? = some (.cells row 86 (0, 0)) ∧
  Kr p w ((((W.setCell ⟨w.heap.size, 0, none⟩ v0).setCell ⟨w.heap.size, 1, none⟩ v1).setCell ⟨w.heap.size, 2, none⟩ v2).setCell ⟨w.heap.size, 3, none⟩ v3) := by
 have hB : Below w.heap.size W ((((W.setCell ⟨w.heap.size, 0, none⟩ v0).setCell ⟨w.heap.size, 1, none⟩ v1).setCell ⟨w.heap.size, 2, none⟩ v2).setCell ⟨w.heap.size, 3, none⟩ v3) :=
  ((((Below.refl w.heap.size W).setCell (p := ⟨w.heap.size, 0, none⟩) (Nat.le_refl _) _).setCell (p := ⟨w.heap.size, 1, none⟩) (Nat.le_refl _) _).setCell (p := ⟨w.heap.size, 2, none⟩) (Nat.le_refl _) _).setCell (p := ⟨w.heap.size, 3, none⟩) (Nat.le_refl _) _
 exact ⟨(hB.block _ h.hp).trans h.r, ⟨hB.os.trans h.k.os, hB.tape.trans h.k.tape, hB.output.trans h.k.output, Nat.le_trans h.k.size hB.size, fun k hk hkp => (hB.block k hk).trans (h.k.block k hk hkp)⟩⟩
theorem tabs_kr {p : Nat} {w W : World} (h : Lib.Utf8Tabs 2 3 w) (hk : Kr p w W) (h3 : p ≠ 2) (h4 : p ≠ 3) : Lib.Utf8Tabs 2 3 W := by
 have cell : ∀ (b i : Nat) (v : Value), b ≠ p → w.cell? ⟨b, i, none⟩ = some v → W.cell? ⟨b, i, none⟩ = some v := fun b i v hb hv => by
  have hlt : b < w.heap.size := by
   rcases Nat.lt_or_ge b w.heap.size with h' | h'
   ·exact h'
   ·simp [World.cell?, Array.getElem?_eq_none h'] at hv
  rw [← hv]
  unfold World.cell?
  rw [show W.heap[b]? = w.heap[b]? from hk.block b hlt hb]
 exact ⟨fun c hc => cell 2 c _ (Ne.symm h3) (h.1 c hc), fun i hi => ⟨cell 3 _ _ (Ne.symm h4) (h.2 i hi).1, cell 3 _ _ (Ne.symm h4) (h.2 i hi).2⟩⟩

set_option maxHeartbeats 4000000 in
theorem next_any (p : Nat) (s : ByteArray) (i : Nat) (k n c a o m f1 f2 f3 : Int) (w : World) (hr : w.heap[p]? = some (.cells (rr s i k n c a o m f1 f2 f3) 86 (0, 0))) (hi : i ≤ s.size) (hs : s.size ≤ 1099511627776) (hT : Lib.Utf8Tabs 2 3 w) (h3 : p ≠ 2) (h4 : p ≠ 3) :
  Calls Tryz.prog 54 #[.pointer (some ⟨p, 0, none⟩)] w fun e w' => ∃ j : Nat, e = .returned (tokT (nextT s.data.toList i) (nextT s.data.toList i).at_) ∧ w'.heap[p]? = some (.cells (rr s j k n c a o m f1 f2 f3) 86 (0, 0)) ∧ j ≤ s.size ∧ ((nextT s.data.toList i).kind ≠ 1 → (nextT s.data.toList i).end_ = j) ∧ Kr p w w' := by
 have hlen : s.data.toList.length = s.size := by simp
 obtain ⟨hsk, hat, _⟩ := next_front s.data.toList i (by omega)
 have hblk := skip_blk s.data.toList _ i rfl (by omega)
 obtain ⟨WA, hWA⟩ : ∃ WA, WA = w.alloc (Obj.cells #[.int .i64 0, .int .i64 0, .int .i64 0, .int .i64 0] 84) := ⟨_, rfl⟩
 have hb0 : Below w.heap.size w WA := by rw [hWA]; exact below_box _ _
 have hN0 : Nx w WA p (rr s i k n c a o m f1 f2 f3) := ⟨by rw [hWA]; exact heap_alloc_new w _, step_row hr hb0, Kr.of_below hb0, (Array.getElem?_eq_some_iff.1 hr).1⟩
 have c0 := fun j => cell_row hN0.r j
 obtain ⟨q, hq⟩ : ∃ q, q = skipB s.data.toList i := ⟨_, rfl⟩
 have HB : ∀ W, Hid (Calls Tryz.prog 72 #[.string (s.extract i s.size)] W fun e w' => e = .returned (.int .i64 ((q : Int) - i)) ∧ Below W.heap.size W w') := fun W => by
  have h := blanks_any (s.extract i s.size) W
  have e1 : (s.extract i s.size).data.toList = s.data.toList.drop i := by rw [Lib.extract_eq]; simp; exact List.take_of_length_le (by rw [List.length_drop]; omega)
  rw [e1] at h
  have e2 : ((blk false (s.data.toList.drop i) : Nat) : Int) = (q : Int) - i := by omega
  rw [e2] at h
  exact h
 have HF : ∀ W, Lib.Utf8Tabs 2 3 W → Hid (Calls Tryz.prog 73 #[.string (s.extract q s.size)] W fun e w' => ∃ n : Nat, e = .returned (.tuple #[tokT (nextT s.data.toList i) 0, .int .i64 n]) ∧ q + n ≤ s.size ∧ ((nextT s.data.toList i).kind ≠ 1 → (nextT s.data.toList i).end_ = q + n) ∧ Below W.heap.size W w') := fun W hW => by
  have h := first_any s.data.toList i (by omega) (by omega) W hW
  rw [← hq] at h
  have e1 : s.extract q s.size = ⟨(s.data.toList.drop q).toArray⟩ := by
   rw [Lib.extract_eq]; congr 2; exact List.take_of_length_le (by rw [List.length_drop]; omega)
  rw [e1]
  rw [hlen] at h
  exact h
 have hat' : ((nextT s.data.toList i).at_ : Int) = q := by rw [hat, hq]
 obtain ⟨T, hTT⟩ : ∃ T, T = nextT s.data.toList i := ⟨_, rfl⟩
 rw [← hTT] at hat' ⊢
 simp only [← hTT] at HF
 have hq1 : q ≤ s.size := by omega
 have HWR : Hid (IntKind.i64.wrap ((i : Int) + ((q : Int) - i)) = q) := by
  show _ = _
  rw [show (i : Int) + ((q : Int) - i) = q by omega]
  exact (IntWalk.i64_left _).trans <| IntWalk.wrap64_in _ ⟨by omega, by omega⟩
 have HTA := hid hT
 have HWA := hid hWA
 have N0 := hid hN0
 have HAT := hid hat'
 have hiq : i ≤ q := by omega
 have i1 : (0 : Int) ≤ i := by omega
 have i2 : (i : Int) ≤ s.size := by omega
 have i3 : (0 : Int) ≤ q := by omega
 have i4 : (q : Int) ≤ s.size := by omega
 clear hWA hr hN0 hb0 hat hq hblk hsk hTT hat' hT hlen
 go_enter Tryz.func54, Tryz.ntmps54
 go_upto_region 1 with (rw [← HWA.out])
 go_cut [] (fun wx => Hid (Nx w wx p (rr s q k n c a o m f1 f2 f3)))
 case first =>
  go_region_law (first | (go_simp; go_at_call 72; refine (HB _).out.mono ?_; rintro e w1 ⟨rfl, b1⟩; have N1 := hid (N0.out.drew.step b1); have c1 := fun j => cell_row N1.out.r j; have fr1 := fun j => unfrozen_row N1.out.r j; clear b1))
  all_goals
   go_wp2_with fail
   go_meet
   rw [HWR.out]
   exact N1.out.set1 q
 case rest =>
  obtain ⟨wd, hwd⟩ : ∃ wd, wd = wc := ⟨_, rfl⟩
  subst hwd
  clear N0 c0 HB HWR HWA
  have c2 := fun j => cell_row hcut.out.r j
  have nA : Nx w (wd.alloc (Obj.cells #[.int .i64 0, .int .i64 0, .int .i64 0, .int .i64 0] 84)).drew p (rr s q k n c a o m f1 f2 f3) := (hcut.out.step (below_box _ _)).drew
  have nB : Nx w wd.drew p (rr s q k n c a o m f1 f2 f3) := hcut.out.drew
  have HFA := hid (HF _ (tabs_kr HTA.out nA.k h3 h4)).out
  have HFB := hid (HF _ (tabs_kr HTA.out nB.k h3 h4)).out
  have rZ : (wd.alloc (Obj.cells #[.int .i64 0, .int .i64 0, .int .i64 0, .int .i64 0] 84)).drew.heap[wd.heap.size]? = some (.cells #[.int .i64 0, .int .i64 0, .int .i64 0, .int .i64 0] 84 (0, 0)) := drew_row (heap_alloc_new wd _)
  have cA := fun j => cell_row nA.r j
  have HRZ := hid rZ
  have NA := hid nA
  have NB := hid nB
  have hws : w.heap.size < wd.heap.size := (Array.getElem?_eq_some_iff.1 hcut.out.z).1
  clear nA nB rZ HF
  go_upto_region 2 with fail
  go_cut [3, 4] (fun s3 s4 wx => ∃ (b n1 : Nat), s3 = .pointer (some ⟨b, 0, none⟩) ∧ s4 = .int .i64 n1 ∧ q + n1 ≤ s.size ∧ Hid ((T.kind ≠ 1 → T.end_ = q + n1) ∧ Nx w wx p (rr s q k n c a o m f1 f2 f3) ∧ wx.heap[b]? = some (.cells #[.int .i64 (kindL T), .int .i64 (numL T), .int .i64 (codeL T), .int .i64 0] 84 (0, 0)) ∧ w.heap.size < b))
  case first =>
   go_region_law (first | (go_simp; go_at_call 73; refine HFA.out.mono ?_; rintro e w2 ⟨n1, rfl, hn1, hn2, b2⟩; have N2 := hid (NA.out.step b2); have rz := step_row HRZ.out b2; have cz := fun j => cell_row rz j; have fz := fun j => unfrozen_row rz j; have HR2 := hid rz; have HN2 := hid hn2; clear b2 hn2 rz) | (go_simp; go_at_call 73; refine HFB.out.mono ?_; rintro e w2 ⟨n1, rfl, hn1, hn2, b2⟩; have N2 := hid (NB.out.step b2); have HN2 := hid hn2; have hbw := hid b2.size; clear b2 hn2))
   all_goals
    go_wp2_with fail
    go_meet
    first
    |(exact ⟨_, _, rfl, rfl, hn1, HN2.out, N2.out.tok4 hws _ _ _ _, set4 HR2.out _ _ _ _, hws⟩)
    |(exact ⟨_, _, rfl, rfl, hn1, HN2.out, N2.out.step (below_box _ _), heap_alloc_new _ _, Nat.lt_of_lt_of_le hws hbw.out⟩)
  case rest =>
   obtain ⟨b, n1, rfl, rfl, hn1, HC2⟩ := hcut
   obtain ⟨we, hwe⟩ : ∃ we, we = wc := ⟨_, rfl⟩
   subst hwe
   clear HFA HFB HRZ NA NB c2 cA
   have c3 := fun j => cell_row HC2.out.2.1.r j
   have fr3 := fun j => unfrozen_row HC2.out.2.1.r j
   have c4 := fun j => cell_row HC2.out.2.2.1 j
   have fr4 := fun j => unfrozen_row HC2.out.2.2.1 j
   have c5 := fun j => cell_row HC2.out.2.1.z j
   have fr5 := fun j => unfrozen_row HC2.out.2.1.z j
   have hpb : p ≠ b := by have := HC2.out.2.1.hp; have := HC2.out.2.2.2; omega
   have hpb' : b ≠ p := Ne.symm hpb
   have hwb : w.heap.size ≠ b := by have := HC2.out.2.2.2; omega
   have hwb' : b ≠ w.heap.size := Ne.symm hwb
   have hwp : w.heap.size ≠ p := by have := HC2.out.2.1.hp; omega
   have hwp' : p ≠ w.heap.size := Ne.symm hwp
   go_wp2_with fail
   have hend := ((HC2.out.2.1.one HC2.out.2.2.2 3 (.int .i64 q)).set1 ((q : Int) + n1)).fin (.int .i64 (kindL T)) (.int .i64 (numL T)) (.int .i64 (codeL T)) (.int .i64 q)
   refine bodyPost_ret (v := tokV (kindL T) (numL T) (codeL T) q) (by simp [results, Tryz.results54, go_sem, c5]) rfl ⟨q + n1, by rw [HAT.out], ?_, hn1, HC2.out.1, hend.2⟩
   rw [show ((q + n1 : Nat) : Int) = (q : Int) + n1 by omega]
   exact hend.1

end Go.Proofs.YtdkboifpdodonacGreatDoor
/-
 The reader by rules against the machine that reads by one stack: rule by rule: plain mathematics.
-/
namespace PureRd
open PureCnf PureForm Go.Proofs.YtdkboifpdodonacGreatDoor
set_option maxRecDepth 100000

variable {l : List UInt8}
theorem binds_range (op : Nat) : 1 ≤ bindsN op ∧ bindsN op ≤ 5 := by
 unfold bindsN
 (repeat' split) <;> omega
/-- nothing on top gives way to an operator that binds that tightly. -/
def Base (b : Nat) (st : List Wt) : Prop := ∀ w, st.head? = some w → ∀ op, b ≤ bindsN op → gives op w = false
def Pre0 (b : Nat) (s : PS) : Prop := s.want = 0 ∧ Base b s.st
def PreQ (op : Nat) (s : PS) : Prop := s.want = 3 ∧ s.quant = op
/-- behind an operand: its nodes are made but for those that wait. -/
structure Rest (b : Nat) (s : PS) (o : List Nd) (P : List Wt) (s' : PS) (t : PureForm.Tok) : Prop where
 want : s'.want = 1
 st : s'.st = P ++ s.st
 out : s'.out ++ P.map nodeOf = s.out ++ o
 kinds : ∀ w ∈ P, w.kind ≠ 3 ∧ w.kind ≠ 4
 next : t.kind = 7 → bindsN t.n < b ∧ ∀ w ∈ P, gives t.n w = true

structure Rel (l : List UInt8) (Pre : PS → Prop) (b : Nat) (q : Q) (v : Go.Value) (q' : Q) : Prop where
 mono : Mono l 0 q q'
 run : ∀ s, q.fault = none → Pre s → s.made = q.made → opnOf s.st = q.opn →
  K l (runP s (toksFrom l q.at_)) q' (fun s' => ∃ t P, v = tv t ∧ t.good ∧ Rest b s t.post P s' (nextT l q'.at_))

theorem Rel.weak {Pre Pre2 : PS → Prop} {b : Nat} {q q' : Q} {v : Go.Value} (h : Rel l Pre b q v q') (hp : ∀ s, Pre2 s → Pre s) : Rel l Pre2 b q v q' :=
 ⟨h.mono, fun s a c d e => h.run s a (hp s c) d e⟩
theorem Rel.dead {Pre : PS → Prop} {b : Nat} {q q' : Q} {v : Go.Value} {f : Nat × Nat} (hq : q.fault = some f) (h : q'.fault = some f) : Rel l Pre b q v q' :=
 ⟨⟨fun g hg => by rw [hq] at hg; rw [h, hg], fun hn => by rw [h] at hn; cases hn⟩, fun s hn => by rw [hq] at hn; cases hn⟩
theorem base_mono {b b' : Nat} {st : List Wt} (hb : b ≤ b') (h : Base b st) : Base b' st := fun w hw op ho => h w hw op (by omega)
theorem base_six (st : List Wt) : Base 6 st := fun w _ op ho => by have := (binds_range op).2; omega
theorem base_top (w : Wt) (st : List Wt) (b : Nat) (h1 : w.kind ≠ 1) (h5 : w.kind ≠ 5) : Base b (w :: st) := fun x hx op _ => by
 simp at hx; subst hx; simp [gives, h1, h5]
theorem binds_pos (op : Nat) : 1 ≤ bindsN op := (binds_range op).1
theorem Pre0.up {b b' : Nat} {s : PS} (hb : b ≤ b') (h : Pre0 b s) : Pre0 b' s := ⟨h.1, base_mono hb h.2⟩

/-- a call of a rule. -/
theorem K.call {X : Ans} {q q' : Q} {S S2 : PS → Prop} {Pre : PS → Prop} {b : Nat} {v : Go.Value} (h : K l X q S) (hr : Rel l Pre b q v q')
  (hp : q.fault = none → ∀ s, S s → s.made = q.made → Pre s ∧ opnOf s.st = q.opn)
  (h2 : q.fault = none → q'.fault = none → ∀ s t P s', S s → v = tv t → t.good → Rest b s t.post P s' (nextT l q'.at_) → S2 s') : K l X q' S2 := by
 cases hq : q.fault with
 | some f =>
  have e := h.1 f hq
  have e2 := hr.mono.dead f hq
  exact ⟨fun g hg => by rw [e2] at hg; cases hg; exact e, fun hn => by rw [e2] at hn; cases hn⟩
 | none =>
  obtain ⟨s, a, b, c⟩ := h.2 hq
  obtain ⟨p1, p2⟩ := hp hq s a b
  obtain ⟨k1, k2⟩ := hr.run s hq p1 b p2
  refine ⟨fun f hf => by rw [c]; exact k1 f hf, fun hn => ?_⟩
  obtain ⟨s', ⟨t, P, e1, e2, e3⟩, m, r⟩ := k2 hn
  exact ⟨s', h2 hq hn s t P s' a e1 e2 e3, m, by rw [c]; exact r⟩

theorem settleIn_P : ∀ (P : List Wt) (st : List Wt) (o : List Nd), (∀ w ∈ P, w.kind ≠ 3 ∧ w.kind ≠ 4) → settleIn (P ++ st) o = settleIn st (o ++ P.map nodeOf)
 | [], st, o, _ => by simp
 | w :: P, st, o, h => by
  have hw := h w (List.mem_cons_self ..)
  rw [List.cons_append, settleIn, if_neg (by omega), settleIn_P P st _ (fun x hx => h x (List.mem_cons_of_mem _ hx))]
  simp
theorem settleOps_P (op : Nat) : ∀ (P : List Wt) (st : List Wt) (o : List Nd), (∀ w ∈ P, gives op w = true) → settleOps op (P ++ st) o = settleOps op st (o ++ P.map nodeOf)
 | [], st, o, _ => by simp
 | w :: P, st, o, h => by
  have hw := h w (List.mem_cons_self ..)
  rw [List.cons_append, settleOps, if_pos hw, settleOps_P op P st _ (fun x hx => h x (List.mem_cons_of_mem _ hx))]
  simp
theorem settleOps_base {op b : Nat} {st : List Wt} (o : List Nd) (h : Base b st) (hb : b ≤ bindsN op) : settleOps op st o = (st, o) := by
 cases st with
 | nil => rfl
 | cons w t => rw [settleOps, if_neg (by rw [h w rfl op hb]; simp)]
/-- behind an operand, a token that may not come there. -/
theorem step_wrong {s : PS} {t : PureForm.Tok} (hw : s.want = 1) (h7 : t.kind ≠ 7) (hc : t.kind = 9 → closesP s = .error 131) (hm : t.kind = 10 → commaP s = .error 131) (he : t.kind = 0 → endsP s = .error 131) :
  stepP s t = .error (errc t 131) := by
 unfold stepP errc
 by_cases h1 : t.kind = 1
 ·rw [if_pos h1, if_pos h1]
 ·rw [if_neg h1, if_neg h1, if_neg (by omega), if_neg (by omega), if_neg (by omega), if_neg (by omega), if_neg h7]
  split
  ·next h => exact hc h
  ·split
   ·next h => exact hm h
   ·split
    ·next h => exact he h
    ·rfl

/-! ### constants and variables, and what is none -/
theorem rel_leaf {q : Q} (hq : q.fault = none) (hk : q.kind l = 1 ∨ q.kind l = 2) (v : Go.Value) (hv : v = tv (.lf ((q.kind l : Int), (q.num l : Int)))) : Rel l (Pre0 6) 6 q v (q.passN l) := by
 have kk := kinds_next l q.at_
 have hf := next_fair l q.at_
 have hn := (next_ok l q.at_).num
 have e1 : q.kind l = kindL (nextT l q.at_) := by unfold Q.kind; rw [if_pos hq]
 have e2 : q.num l = numL (nextT l q.at_) := by unfold Q.num; rw [if_pos hq]
 rw [e1] at hk
 have hkk : (nextT l q.at_).kind = 2 ∨ (nextT l q.at_).kind = 3 := by
  rcases hk with h | h
  ·exact .inl (kk.k2.1 h)
  ·exact .inr (kk.k3.1 h)
 have e3 : numL (nextT l q.at_) = (nextT l q.at_).n := by unfold numL; rw [if_pos hkk]
 refine ⟨mono_passN (fun _ => by omega), fun s _ hp hm ho => ?_⟩
 refine (K.start (l := l) hq hm).passN (fun _ => by omega) (fun _ => by omega) (fun _ x hx hmx => ?_)
 subst hx
 have hs : stepP x (nextT l q.at_) = if 65536 ≤ x.made then .error 8 else .ok (.inl { x with out := x.out ++ [((if (nextT l q.at_).kind = 3 then 2 else 1 : Int), ((nextT l q.at_).n : Int))], made := x.made + 1, want := 1 }) := by
  unfold stepP
  rw [if_neg (by omega), if_pos hp.1, if_pos hkk]
 refine ⟨fun h => by rw [hs, if_pos h], fun h => ⟨_, by rw [hs, if_neg (by omega)], rfl, ?_⟩⟩
 refine ⟨_, [], hv, ?_, ⟨rfl, rfl, ?_, by simp, fun _ => ⟨?_, by simp⟩⟩⟩
 ·rw [e1, e2, e3]
  rcases hkk with h | h
  ·refine .inl ⟨by simp [kk.k2.2 h], ?_⟩
   have := hf.cst h
   simp only
   omega
  ·refine .inr ⟨by simp [kk.k3.2 h], by simp, ?_⟩
   simp only
   omega
 ·rw [e1, e2, e3]
  rcases hkk with h | h
  ·simp [Tr.post_lf, Tr.post_un, Tr.post_bi, Tr.post_te, h, kk.k2.2 h]
  ·simp [Tr.post_lf, Tr.post_un, Tr.post_bi, Tr.post_te, h, kk.k3.2 h]
 ·exact Nat.lt_succ_of_le (binds_range _).2

theorem rel_none {q : Q} (v : Go.Value) (h1 : q.kind l ≠ 1) (h2 : q.kind l ≠ 2) (h3 : q.kind l ≠ 3) (h4 : q.kind l ≠ 4) (h5 : q.kind l ≠ 5) (h11 : q.kind l ≠ 11) (h12 : q.kind l ≠ 12) : Rel l (Pre0 6) 6 q v (q.ref l 131) := by
 cases hq : q.fault with
 | some f => exact Rel.dead hq (by unfold Q.ref; rw [if_neg (by rw [hq]; simp)]; exact hq)
 | none =>
  have kk := kinds_next l q.at_
  have e1 : q.kind l = kindL (nextT l q.at_) := by unfold Q.kind; rw [if_pos hq]
  rw [e1] at h1 h2 h3 h4 h5 h11 h12
  refine ⟨mono_ref, fun s _ hp hm ho => ?_⟩
  unfold Q.ref
  rw [if_pos hq]
  refine ⟨fun f hf => ?_, fun hx => by simp [Q.err] at hx⟩
  simp only [Q.err, Option.some.injEq] at hf
  rw [run_err (e := errc (nextT l q.at_) 131), ← hf]
  unfold stepP errc
  by_cases hb : (nextT l q.at_).kind = 1
  ·rw [if_pos hb, if_pos hb]
  ·rw [if_neg hb, if_neg hb, if_pos hp.1, if_neg (fun h => h.elim (fun h => h1 (kk.k2.2 h)) (fun h => h2 (kk.k3.2 h))), if_neg (fun h => (kk.k5.2 h).elim h4 h5),
    if_neg (fun h => h12 (kk.k8.2 h)), if_neg (fun h => h11 (kk.k6.2 h)), if_neg (fun h => h3 (kk.k4.2 h))]

/-! ### the opposite -/
theorem kind_tok {q : Q} {k : Nat} (hk : q.kind l = k) (h17 : k ≠ 17) : q.fault = none ∧ kindL (nextT l q.at_) = k := kind_live h17 hk
theorem rel_not {q q' : Q} {v : Go.Value} (hk : q.kind l = 3) (hr : Rel l (Pre0 6) 6 ((q.ent l).passN l) v q') : Rel l (Pre0 6) 6 q (.iface 90 (.agg #[v])) q'.lev := by
 obtain ⟨hq, ek⟩ := kind_tok hk (by decide)
 have kk := kinds_next l q.at_
 have k4 := kk.k4.1 ek
 have m1 := mono_ent (l := l) (q := q)
 have m2 : Mono l 0 (q.ent l) ((q.ent l).passN l) := mono_passN (fun h => by rw [(ent_at h).1]; omega)
 have m3 := (m1.trans m2).trans hr.mono
 have m4 : Mono l (-1) q' q'.lev := mono_lev (fun h => by have := (m3.live h).1; omega)
 refine ⟨m3.trans m4, fun s _ hp hm ho => ?_⟩
 have k1 := (K.start (l := l) hq hm).entN (w := ⟨1, 0, 0⟩) (wn := 0) (fun _ => by omega) (fun _ => by omega) (fun _ x hx => by
  subst hx
  refine ⟨ho, ?_⟩
  unfold stepP
  rw [if_neg (by omega), if_pos hp.1, if_neg (by omega), if_neg (by omega), if_neg (by omega), if_neg (by omega), if_pos k4])
 have k2 := k1.call (S2 := fun s' => ∃ t P, (Go.Value.iface 90 (.agg #[v])) = tv t ∧ t.good ∧ Rest 6 s t.post P s' (nextT l q'.at_)) hr (fun hn x hx hmx => by
  obtain ⟨y, rfl, rfl⟩ := hx
  refine ⟨⟨rfl, base_six _⟩, ?_⟩
  have h1 := ((m1.trans m2).live hn).1
  rw [show opnOf ((⟨1, 0, 0⟩ : Wt) :: y.st) = opnOf y.st + 1 by simp [opnOf]]
  omega) (fun _ _ x t P s' hx e1 e2 e3 => by
  obtain ⟨y, rfl, rfl⟩ := hx
  refine ⟨.un (3, 0) t, P ++ [⟨1, 0, 0⟩], by rw [e1]; rfl, ⟨.inl ⟨rfl, rfl⟩, e2⟩, ⟨e3.want, by rw [e3.st]; simp, ?_, ?_, ?_⟩⟩
  ·have := e3.out
   simp only at this
   rw [List.map_append, ← List.append_assoc, this]
   simp [Tr.post_lf, Tr.post_un, Tr.post_bi, Tr.post_te, nodeOf]
  ·intro w hw
   rcases List.mem_append.1 hw with h | h
   ·exact e3.kinds w h
   ·simp at h; subst h; simp
  ·intro h7
   refine ⟨(e3.next h7).1, fun w hw => ?_⟩
   rcases List.mem_append.1 hw with h | h
   ·exact (e3.next h7).2 w h
   ·simp at h; subst h; simp [gives])
 have e : q'.lev.at_ = q'.at_ := by unfold Q.lev; split <;> rfl
 rw [e]
 exact k2.lev

/-! ### brackets -/
theorem rel_bracket {q q3 : Q} {v : Go.Value} (hk : q.kind l = 12) (hr : Rel l (Pre0 1) 1 ((q.ent l).pass l 12) v q3) : Rel l (Pre0 6) 6 q v (q3.lev.pass l 13) := by
 obtain ⟨hq, ek⟩ := kind_tok hk (by decide)
 have kk := kinds_next l q.at_
 have k8 := kk.k8.1 ek
 have m1 := mono_ent (l := l) (q := q)
 have m2 : Mono l 0 (q.ent l) ((q.ent l).pass l 12) := mono_pass (by decide) (by decide)
 have m3 := (m1.trans m2).trans hr.mono
 have m4 : Mono l (-1) q3 q3.lev := mono_lev (fun h => by have := (m3.live h).1; omega)
 have m5 : Mono l 0 q3.lev (q3.lev.pass l 13) := mono_pass (by decide) (by decide)
 refine ⟨(m3.trans m4).trans m5, fun s _ hp hm ho => ?_⟩
 have k1 := (K.start (l := l) hq hm).entP (fun _ => k8) (fun _ x hx => by subst hx; exact ⟨ho, hp.1⟩)
 have k2 := k1.call (S2 := fun s' => ∃ t P, v = tv t ∧ t.good ∧ Rest 1 { s with st := ⟨3, 0, 0⟩ :: s.st, want := 0 } t.post P s' (nextT l q3.at_)) hr (fun hn x hx hmx => by
  obtain ⟨y, rfl, rfl⟩ := hx
  refine ⟨⟨rfl, base_top _ _ _ (by simp) (by simp)⟩, ?_⟩
  have h1 := ((m1.trans m2).live hn).1
  rw [show opnOf ((⟨3, 0, 0⟩ : Wt) :: y.st) = opnOf y.st + 1 by simp [opnOf]]
  omega) (fun _ _ x t P s' hx e1 e2 e3 => by
  obtain ⟨y, rfl, rfl⟩ := hx
  exact ⟨t, P, e1, e2, e3⟩)
 have k3 := k2.lev
 have e : q3.lev.at_ = q3.at_ := by unfold Q.lev; split <;> rfl
 refine k3.pass (by decide) (by decide) (fun hn ek s' hs => ?_) (fun hn ek s' hs => ?_)
 ·obtain ⟨t, P, e1, e2, e3⟩ := hs
  rw [e] at ek ⊢
  have k9 := (kinds_next l q3.at_).k9.1 ek
  have hst : settleIn s'.st s'.out = (⟨3, 0, 0⟩ :: s.st, s.out ++ t.post) := by
   rw [e3.st, settleIn_P _ _ _ e3.kinds, e3.out]
   rfl
  refine ⟨{ s' with st := s.st, out := s.out ++ t.post }, ?_, rfl, t, [], e1, e2, ⟨e3.want, rfl, by simp, by simp, fun h7 => ⟨?_, by simp⟩⟩⟩
  ·unfold stepP
   rw [if_neg (by omega), if_neg (by rw [e3.want]; decide), if_neg (by rw [e3.want]; decide), if_neg (by rw [e3.want]; decide), if_neg (by rw [e3.want]; decide), if_neg (by omega), if_pos k9]
   unfold closesP
   rw [hst]
   rfl
  ·exact Nat.lt_succ_of_le (binds_range _).2
 ·obtain ⟨t, P, e1, e2, e3⟩ := hs
  rw [e] at ek ⊢
  have hst : settleIn s'.st s'.out = (⟨3, 0, 0⟩ :: s.st, s.out ++ t.post) := by
   rw [e3.st, settleIn_P _ _ _ e3.kinds, e3.out]
   rfl
  refine step_wrong e3.want (fun h7 => ?_) (fun h9 => ?_) (fun h => ?_) (fun h => ?_)
  ·have := (e3.next h7).1
   have := binds_pos (nextT l q3.at_).n
   omega
  ·exact absurd ((kinds_next l q3.at_).k9.2 h9) ek
  ·unfold commaP; rw [hst]; rfl
  ·unfold endsP; rw [hst]
end PureRd
/-
 The reader by rules: choices, quantifiers, operators: plain mathematics.
-/
namespace PureRd
open PureCnf PureForm Go.Proofs.YtdkboifpdodonacGreatDoor
set_option maxRecDepth 100000

variable {l : List UInt8}
theorem opn_more {w : Wt} {st : List Wt} (h : w.kind ≠ 5) : opnOf (w :: st) = opnOf st + 1 := by simp [opnOf, h]
theorem lev_at (q : Q) : q.lev.at_ = q.at_ := by unfold Q.lev; split <;> rfl

/-! ### ite -/
/-- behind an operand of ite: a comma, or the closing bracket. -/
theorem ite_settle {s s' : PS} {n : Nat} {o : List Nd} {P : List Wt} {t : PureForm.Tok} {st : List Wt} {out : List Nd} (h : Rest 1 { s with st := ⟨4, 0, n⟩ :: st, out := out } o P s' t) : settleIn s'.st s'.out = (⟨4, 0, n⟩ :: st, out ++ o) := by
 rw [h.st, settleIn_P _ _ _ h.kinds, h.out]
 rfl
theorem rest_no7 {s s' : PS} {o : List Nd} {P : List Wt} {t : PureForm.Tok} (h : Rest 1 s o P s' t) : t.kind ≠ 7 := fun h7 => by
 have := (h.next h7).1
 have := binds_pos t.n
 omega
theorem rel_ite {q q1 q2 q3 : Q} {v1 v2 v3 : Go.Value} (hk : q.kind l = 11) (r1 : Rel l (Pre0 1) 1 (((q.ent l).passN l).pass l 12) v1 q1) (r2 : Rel l (Pre0 1) 1 (q1.pass l 14) v2 q2) (r3 : Rel l (Pre0 1) 1 (q2.pass l 14) v3 q3) :
  Rel l (Pre0 6) 6 q (.iface 96 (.agg #[v1, v2, v3])) (q3.lev.pass l 13) := by
 obtain ⟨hq, ek⟩ := kind_tok hk (by decide)
 have kk := kinds_next l q.at_
 have k6 := kk.k6.1 ek
 have m1 := mono_ent (l := l) (q := q)
 have m2 : Mono l 0 (q.ent l) ((q.ent l).passN l) := mono_passN (fun h => by rw [(ent_at h).1]; omega)
 have m3 : Mono l 0 ((q.ent l).passN l) (((q.ent l).passN l).pass l 12) := mono_pass (by decide) (by decide)
 have m4 : Mono l 0 q1 (q1.pass l 14) := mono_pass (by decide) (by decide)
 have m5 : Mono l 0 q2 (q2.pass l 14) := mono_pass (by decide) (by decide)
 have n1 := (m1.trans m2).trans m3
 have n2 := (n1.trans r1.mono).trans m4
 have n3 := (n2.trans r2.mono).trans m5
 have n4 := n3.trans r3.mono
 have m6 : Mono l (-1) q3 q3.lev := mono_lev (fun h => by have := (n4.live h).1; omega)
 have m7 : Mono l 0 q3.lev (q3.lev.pass l 13) := mono_pass (by decide) (by decide)
 refine ⟨(n4.trans m6).trans m7, fun s _ hp hm ho => ?_⟩
 have k1 := (K.start (l := l) hq hm).entN (w := ⟨4, 0, 0⟩) (wn := 2) (fun _ => by omega) (fun _ => by omega) (fun _ x hx => by
  subst hx
  refine ⟨ho, ?_⟩
  unfold stepP
  rw [if_neg (by omega), if_pos hp.1, if_neg (by omega), if_neg (by omega), if_neg (by omega), if_pos k6])
 have k2 := k1.pass (k := 12) (S2 := fun s' => ∃ m, s' = { s with st := ⟨4, 0, 0⟩ :: s.st, out := s.out, made := m, want := 0 }) (by decide) (by decide) (fun hn e x hx => by
  obtain ⟨y, rfl, rfl⟩ := hx
  have k8 := (kinds_next l _).k8.1 e
  refine ⟨{ y with st := ⟨4, 0, 0⟩ :: y.st, made := y.made + 1, want := 0 }, ?_, rfl, ⟨_, rfl⟩⟩
  unfold stepP
  rw [if_neg (by omega), if_neg (by simp), if_pos rfl, if_pos k8]) (fun hn e x hx => by
  obtain ⟨y, rfl, rfl⟩ := hx
  unfold stepP errc
  split
  ·rfl
  ·rw [if_neg (by simp), if_pos rfl, if_neg (fun h => e ((kinds_next l _).k8.2 h))])
 have opn1 : ∀ n, opnOf ((⟨4, 0, n⟩ : Wt) :: s.st) = opnOf s.st + 1 := fun n => opn_more (by simp)
 have k3 := k2.call (S2 := fun s' => ∃ t P m, v1 = tv t ∧ t.good ∧ Rest 1 { s with st := ⟨4, 0, 0⟩ :: s.st, out := s.out, made := m, want := 0 } t.post P s' (nextT l q1.at_)) r1 (fun hn x hx hmx => by
  obtain ⟨m, rfl⟩ := hx
  refine ⟨⟨rfl, base_top _ _ _ (by simp) (by simp)⟩, ?_⟩
  have := (n1.live hn).1
  simp only [opn1]
  omega) (fun _ _ x t P s' hx e1 e2 e3 => by
  obtain ⟨m, rfl⟩ := hx
  exact ⟨t, P, m, e1, e2, e3⟩)
 have k4 := k3.pass (k := 14) (S2 := fun s' => ∃ t m u, v1 = tv t ∧ t.good ∧ s' = { s with st := ⟨4, 0, 1⟩ :: s.st, out := s.out ++ t.post, made := m, want := 0, quant := u }) (by decide) (by decide) (fun hn e x hx => by
  obtain ⟨t, P, m, e1, e2, e3⟩ := hx
  have k10 := (kinds_next l _).k10.1 e
  have hs := ite_settle (s := { s with made := m, want := 0 }) e3
  refine ⟨{ x with st := ⟨4, 0, 1⟩ :: s.st, out := s.out ++ t.post, want := 0 }, ?_, rfl, t, x.made, x.quant, e1, e2, rfl⟩
  unfold stepP
  rw [if_neg (by omega), if_neg (by rw [e3.want]; decide), if_neg (by rw [e3.want]; decide), if_neg (by rw [e3.want]; decide), if_neg (by rw [e3.want]; decide), if_neg (by omega), if_neg (by omega), if_pos k10]
  unfold commaP
  rw [hs]
  rfl) (fun hn e x hx => by
  obtain ⟨t, P, m, e1, e2, e3⟩ := hx
  have hs := ite_settle (s := { s with made := m, want := 0 }) e3
  refine step_wrong e3.want (rest_no7 e3) (fun h9 => ?_) (fun h => absurd ((kinds_next l _).k10.2 h) e) (fun h => ?_)
  ·unfold closesP; rw [hs]; rfl
  ·unfold endsP; rw [hs])
 have k5 := k4.call (S2 := fun s' => ∃ t t2 P m u, v1 = tv t ∧ t.good ∧ v2 = tv t2 ∧ t2.good ∧ Rest 1 { s with st := ⟨4, 0, 1⟩ :: s.st, out := s.out ++ t.post, made := m, want := 0, quant := u } t2.post P s' (nextT l q2.at_)) r2 (fun hn x hx hmx => by
  obtain ⟨t, m, u, _, _, rfl⟩ := hx
  refine ⟨⟨rfl, base_top _ _ _ (by simp) (by simp)⟩, ?_⟩
  have := (n2.live hn).1
  simp only [opn1]
  omega) (fun _ _ x t2 P s' hx e1 e2 e3 => by
  obtain ⟨t, m, u, d1, d2, rfl⟩ := hx
  exact ⟨t, t2, P, m, u, d1, d2, e1, e2, e3⟩)
 have k6' := k5.pass (k := 14) (S2 := fun s' => ∃ t t2 m u, v1 = tv t ∧ t.good ∧ v2 = tv t2 ∧ t2.good ∧ s' = { s with st := ⟨4, 0, 2⟩ :: s.st, out := s.out ++ t.post ++ t2.post, made := m, want := 0, quant := u }) (by decide) (by decide) (fun hn e x hx => by
  obtain ⟨t, t2, P, m, u, d1, d2, e1, e2, e3⟩ := hx
  have k10 := (kinds_next l _).k10.1 e
  have hs := ite_settle (s := { s with made := m, want := 0, quant := u }) e3
  refine ⟨{ x with st := ⟨4, 0, 2⟩ :: s.st, out := s.out ++ t.post ++ t2.post, want := 0 }, ?_, rfl, t, t2, x.made, x.quant, d1, d2, e1, e2, rfl⟩
  unfold stepP
  rw [if_neg (by omega), if_neg (by rw [e3.want]; decide), if_neg (by rw [e3.want]; decide), if_neg (by rw [e3.want]; decide), if_neg (by rw [e3.want]; decide), if_neg (by omega), if_neg (by omega), if_pos k10]
  unfold commaP
  rw [hs]
  rfl) (fun hn e x hx => by
  obtain ⟨t, t2, P, m, u, d1, d2, e1, e2, e3⟩ := hx
  have hs := ite_settle (s := { s with made := m, want := 0, quant := u }) e3
  refine step_wrong e3.want (rest_no7 e3) (fun h9 => ?_) (fun h => absurd ((kinds_next l _).k10.2 h) e) (fun h => ?_)
  ·unfold closesP; rw [hs]; rfl
  ·unfold endsP; rw [hs])
 have k7 := k6'.call (S2 := fun s' => ∃ t t2 t3 P m u, v1 = tv t ∧ t.good ∧ v2 = tv t2 ∧ t2.good ∧ v3 = tv t3 ∧ t3.good ∧ Rest 1 { s with st := ⟨4, 0, 2⟩ :: s.st, out := s.out ++ t.post ++ t2.post, made := m, want := 0, quant := u } t3.post P s' (nextT l q3.at_)) r3 (fun hn x hx hmx => by
  obtain ⟨t, t2, m, u, _, _, _, _, rfl⟩ := hx
  refine ⟨⟨rfl, base_top _ _ _ (by simp) (by simp)⟩, ?_⟩
  have := (n3.live hn).1
  simp only [opn1]
  omega) (fun _ _ x t3 P s' hx e1 e2 e3 => by
  obtain ⟨t, t2, m, u, d1, d2, d3, d4, rfl⟩ := hx
  exact ⟨t, t2, t3, P, m, u, d1, d2, d3, d4, e1, e2, e3⟩)
 refine k7.lev.pass (by decide) (by decide) (fun hn e x hx => ?_) (fun hn e x hx => ?_)
 ·obtain ⟨t, t2, t3, P, m, u, d1, d2, d3, d4, e1, e2, e3⟩ := hx
  rw [lev_at] at e ⊢
  have k9 := (kinds_next l _).k9.1 e
  have hs := ite_settle (s := { s with made := m, want := 0, quant := u }) e3
  refine ⟨{ x with st := s.st, out := s.out ++ t.post ++ t2.post ++ t3.post ++ [(11, 0)] }, ?_, rfl, .te (11, 0) t t2 t3, [], by rw [d1, d3, e1]; rfl, ⟨⟨rfl, rfl⟩, d2, d4, e2⟩, ⟨e3.want, rfl, by simp [Tr.post_lf, Tr.post_un, Tr.post_bi, Tr.post_te], by simp, fun h7 => ⟨Nat.lt_succ_of_le (binds_range _).2, by simp⟩⟩⟩
  unfold stepP
  rw [if_neg (by omega), if_neg (by rw [e3.want]; decide), if_neg (by rw [e3.want]; decide), if_neg (by rw [e3.want]; decide), if_neg (by rw [e3.want]; decide), if_neg (by omega), if_pos k9]
  unfold closesP
  rw [hs]
  rfl
 ·obtain ⟨t, t2, t3, P, m, u, d1, d2, d3, d4, e1, e2, e3⟩ := hx
  rw [lev_at] at e ⊢
  have hs := ite_settle (s := { s with made := m, want := 0, quant := u }) e3
  refine step_wrong e3.want (rest_no7 e3) (fun h9 => absurd ((kinds_next l _).k9.2 h9) e) (fun h => ?_) (fun h => ?_)
  ·unfold commaP; rw [hs]; rfl
  ·unfold endsP; rw [hs]

/-! ### quantifiers -/
theorem relq_none {q : Q} {op : Nat} (v : Go.Value) (hk : q.kind l ≠ 2) : Rel l (PreQ op) 1 q v (q.ref l 131) := by
 cases hq : q.fault with
 | some f => exact Rel.dead hq (by unfold Q.ref; rw [if_neg (by rw [hq]; simp)]; exact hq)
 | none =>
  have kk := kinds_next l q.at_
  have e1 : q.kind l = kindL (nextT l q.at_) := by unfold Q.kind; rw [if_pos hq]
  rw [e1] at hk
  refine ⟨mono_ref, fun s _ hp hm ho => ?_⟩
  unfold Q.ref
  rw [if_pos hq]
  refine ⟨fun f hf => ?_, fun hx => by simp [Q.err] at hx⟩
  simp only [Q.err, Option.some.injEq] at hf
  rw [run_err (e := errc (nextT l q.at_) 131), ← hf]
  have hw := hp.1
  unfold stepP errc
  by_cases hb : (nextT l q.at_).kind = 1
  ·rw [if_pos hb, if_pos hb]
  ·rw [if_neg hb, if_neg hb, if_neg (by omega), if_neg (by omega), if_pos hw, if_neg (fun h => hk (kk.k3.2 h))]
theorem quant_end {op : Nat} {t : Tr} {P : List Wt} {s x : PS} {tok : PureForm.Tok} {n m wn u : Nat} (ho : op = 4 ∨ op = 5) (hn : n ≤ 65535) (hg : t.good)
  (h : Rest 1 { s with st := ⟨2, op, n⟩ :: s.st, made := m, want := wn, quant := u } t.post P x tok) : (Tr.un ((op : Int), (n : Int)) t).good ∧ Rest 1 s (Tr.un ((op : Int), (n : Int)) t).post (P ++ [⟨2, op, n⟩]) x tok := by
 refine ⟨⟨.inr ⟨by rcases ho with rfl | rfl <;> rfl, by simp, by simp; omega⟩, hg⟩, ⟨h.want, by rw [h.st]; simp, ?_, ?_, fun h7 => absurd h7 (rest_no7 h)⟩⟩
 ·have := h.out
  simp only at this
  rw [List.map_append, ← List.append_assoc, this]
  simp [Tr.post_lf, Tr.post_un, Tr.post_bi, Tr.post_te, nodeOf]
 ·intro w hw
  rcases List.mem_append.1 hw with h' | h'
  ·exact h.kinds w h'
  ·simp at h'; subst h'; simp
theorem tv_quant (op n : Nat) (t : Tr) (ho : op = 4 ∨ op = 5) : tv (.un ((op : Int), (n : Int)) t) = .iface 92 (.agg #[.int .i64 op, .int .i64 n, tv t]) := by
 rcases ho with rfl | rfl <;> rfl
/-- another variable of the same quantifier. -/
theorem relq_more {q q' : Q} {op : Nat} {v : Go.Value} (ho : op = 4 ∨ op = 5) (hk : q.kind l = 2) (hk2 : ((q.ent l).passN l).kind l = 14) (hr : Rel l (PreQ op) 1 (((q.ent l).passN l).adv l) v q') :
  Rel l (PreQ op) 1 q (.iface 92 (.agg #[.int .i64 op, .int .i64 (q.num l), v])) q'.lev := by
 obtain ⟨hq, ek⟩ := kind_tok hk (by decide)
 have kk := kinds_next l q.at_
 have k3 := kk.k3.1 ek
 have en : q.num l = (nextT l q.at_).n := by unfold Q.num numL; rw [if_pos hq, if_pos (.inr k3)]
 obtain ⟨hq2, ek2⟩ := kind_tok hk2 (by decide)
 have k10 := (kinds_next l _).k10.1 ek2
 have m1 := mono_ent (l := l) (q := q)
 have m2 : Mono l 0 (q.ent l) ((q.ent l).passN l) := mono_passN (fun h => by rw [(ent_at h).1]; omega)
 have m3 : Mono l 0 ((q.ent l).passN l) (((q.ent l).passN l).adv l) := mono_adv (fun _ => by omega)
 have n1 := (m1.trans m2).trans m3
 have n2 := n1.trans hr.mono
 have m6 : Mono l (-1) q' q'.lev := mono_lev (fun h => by have := (n2.live h).1; omega)
 refine ⟨n2.trans m6, fun s _ hp hm hop => ?_⟩
 have hw := hp.1
 have k1 := (K.start (l := l) hq hm).entN (w := ⟨2, op, (nextT l q.at_).n⟩) (wn := 4) (fun _ => by omega) (fun _ => by omega) (fun _ x hx => by
  subst hx
  refine ⟨hop, ?_⟩
  unfold stepP
  rw [if_neg (by omega), if_neg (by omega), if_neg (by omega), if_pos hw, if_pos k3, hp.2])
 have k2 := k1.pass (k := 14) (S2 := fun s' => ∃ m, s' = { s with st := ⟨2, op, (nextT l q.at_).n⟩ :: s.st, made := m, want := 3 }) (by decide) (by decide) (fun hn e x hx => by
  obtain ⟨y, rfl, rfl⟩ := hx
  refine ⟨{ y with st := ⟨2, op, (nextT l q.at_).n⟩ :: y.st, made := y.made + 1, want := 3 }, ?_, rfl, ⟨_, rfl⟩⟩
  unfold stepP
  rw [if_neg (by omega), if_neg (by simp), if_neg (by simp), if_neg (by simp), if_pos rfl, if_pos k10]) (fun hn e x hx => absurd ek2 e)
 have ep : ((q.ent l).passN l).pass l 14 = ((q.ent l).passN l).adv l := by unfold Q.pass; rw [if_pos hk2]
 rw [ep] at k2
 have opn1 : opnOf ((⟨2, op, (nextT l q.at_).n⟩ : Wt) :: s.st) = opnOf s.st + 1 := opn_more (by simp)
 have k3' := k2.call (S2 := fun s' => ∃ t P, (Go.Value.iface 92 (.agg #[.int .i64 op, .int .i64 (q.num l), v])) = tv t ∧ t.good ∧ Rest 1 s t.post P s' (nextT l q'.at_)) hr (fun hn x hx hmx => by
  obtain ⟨m, rfl⟩ := hx
  refine ⟨⟨rfl, hp.2⟩, ?_⟩
  have := (n1.live hn).1
  simp only [opn1]
  omega) (fun _ _ x t P s' hx e1 e2 e3 => by
  obtain ⟨m, rfl⟩ := hx
  obtain ⟨g1, g2⟩ := quant_end (s := s) (n := (nextT l q.at_).n) ho (next_ok l q.at_).num e2 e3
  exact ⟨_, _, by rw [tv_quant op _ t ho, e1, en], g1, g2⟩)
 rw [lev_at]
 exact k3'.lev
/-- the last variable, a colon, and what it is over. -/
theorem relq_last {q q' : Q} {op : Nat} {v : Go.Value} (ho : op = 4 ∨ op = 5) (hk : q.kind l = 2) (hk2 : ((q.ent l).passN l).kind l ≠ 14) (hr : Rel l (Pre0 1) 1 (((q.ent l).passN l).pass l 15) v q') :
  Rel l (PreQ op) 1 q (.iface 92 (.agg #[.int .i64 op, .int .i64 (q.num l), v])) q'.lev := by
 obtain ⟨hq, ek⟩ := kind_tok hk (by decide)
 have kk := kinds_next l q.at_
 have k3 := kk.k3.1 ek
 have en : q.num l = (nextT l q.at_).n := by unfold Q.num numL; rw [if_pos hq, if_pos (.inr k3)]
 have m1 := mono_ent (l := l) (q := q)
 have m2 : Mono l 0 (q.ent l) ((q.ent l).passN l) := mono_passN (fun h => by rw [(ent_at h).1]; omega)
 have m3 : Mono l 0 ((q.ent l).passN l) (((q.ent l).passN l).pass l 15) := mono_pass (by decide) (by decide)
 have n1 := (m1.trans m2).trans m3
 have n2 := n1.trans hr.mono
 have m6 : Mono l (-1) q' q'.lev := mono_lev (fun h => by have := (n2.live h).1; omega)
 refine ⟨n2.trans m6, fun s _ hp hm hop => ?_⟩
 have hw := hp.1
 have k1 := (K.start (l := l) hq hm).entN (w := ⟨2, op, (nextT l q.at_).n⟩) (wn := 4) (fun _ => by omega) (fun _ => by omega) (fun _ x hx => by
  subst hx
  refine ⟨hop, ?_⟩
  unfold stepP
  rw [if_neg (by omega), if_neg (by omega), if_neg (by omega), if_pos hw, if_pos k3, hp.2])
 have k2 := k1.pass (k := 15) (S2 := fun s' => ∃ m, s' = { s with st := ⟨2, op, (nextT l q.at_).n⟩ :: s.st, made := m, want := 0 }) (by decide) (by decide) (fun hn e x hx => by
  obtain ⟨y, rfl, rfl⟩ := hx
  have k11 := (kinds_next l _).k11.1 e
  refine ⟨{ y with st := ⟨2, op, (nextT l q.at_).n⟩ :: y.st, made := y.made + 1, want := 0 }, ?_, rfl, ⟨_, rfl⟩⟩
  unfold stepP
  rw [if_neg (by omega), if_neg (by simp), if_neg (by simp), if_neg (by simp), if_pos rfl, if_neg (by omega), if_pos k11]) (fun hn e x hx => by
  obtain ⟨y, rfl, rfl⟩ := hx
  have e14 : kindL (nextT l ((q.ent l).passN l).at_) ≠ 14 := fun h => hk2 (by unfold Q.kind; rw [if_pos hn]; exact h)
  unfold stepP errc
  split
  ·rfl
  ·rw [if_neg (by simp), if_neg (by simp), if_neg (by simp), if_pos rfl, if_neg (fun h => e14 ((kinds_next l _).k10.2 h)), if_neg (fun h => e ((kinds_next l _).k11.2 h))])
 have opn1 : opnOf ((⟨2, op, (nextT l q.at_).n⟩ : Wt) :: s.st) = opnOf s.st + 1 := opn_more (by simp)
 have k3' := k2.call (S2 := fun s' => ∃ t P, (Go.Value.iface 92 (.agg #[.int .i64 op, .int .i64 (q.num l), v])) = tv t ∧ t.good ∧ Rest 1 s t.post P s' (nextT l q'.at_)) hr (fun hn x hx hmx => by
  obtain ⟨m, rfl⟩ := hx
  refine ⟨⟨rfl, base_top _ _ _ (by simp) (by simp)⟩, ?_⟩
  have := (n1.live hn).1
  simp only [opn1]
  omega) (fun _ _ x t P s' hx e1 e2 e3 => by
  obtain ⟨m, rfl⟩ := hx
  obtain ⟨g1, g2⟩ := quant_end (s := s) (n := (nextT l q.at_).n) ho (next_ok l q.at_).num e2 e3
  exact ⟨_, _, by rw [tv_quant op _ t ho, e1, en], g1, g2⟩)
 rw [lev_at]
 exact k3'.lev
/-- a quantifier. -/
theorem rel_quant {q q' : Q} {v : Go.Value} (hk : q.kind l = 4 ∨ q.kind l = 5) (hr : Rel l (PreQ (q.kind l)) 1 (q.adv l) v q') : Rel l (Pre0 6) 6 q v q' := by
 obtain ⟨hq, ek⟩ : q.fault = none ∧ kindL (nextT l q.at_) = q.kind l := by
  rcases hk with h | h
  ·rw [h]; exact kind_tok h (by decide)
  ·rw [h]; exact kind_tok h (by decide)
 rw [← ek] at hk
 have kk := kinds_next l q.at_
 have k5 := kk.k5.1 hk
 have m1 : Mono l 0 q (q.adv l) := mono_adv (fun _ => by omega)
 refine ⟨m1.trans hr.mono, fun s _ hp hm hop => ?_⟩
 have hw := hp.1
 have hs : stepP s (nextT l q.at_) = .ok (.inl { s with quant := (nextT l q.at_).n, want := 3 }) := by
  unfold stepP
  rw [if_neg (by omega), if_pos hw, if_neg (by omega), if_pos k5]
 have ea : q.adv l = q.step l := by unfold Q.adv; rw [if_pos hq]
 have k1 : K l (runP s (toksFrom l q.at_)) (q.adv l) (fun x => x = { s with quant := (nextT l q.at_).n, want := 3 }) := by
  rw [ea]
  exact ⟨fun f hf => by simp [Q.step, hq] at hf, fun _ => ⟨_, rfl, hm, run_on (by omega) hs⟩⟩
 refine k1.call hr (fun hn x hx hmx => ?_) (fun _ _ x t P s' hx e1 e2 e3 => ?_)
 ·subst hx
  refine ⟨⟨rfl, by rw [← ek, kk.n5 k5]⟩, ?_⟩
  rw [ea]
  exact hop
 ·subst hx
  exact ⟨t, P, e1, e2, ⟨e3.want, e3.st, e3.out, e3.kinds, fun h7 => absurd h7 (rest_no7 e3)⟩⟩
end PureRd
/-
 The reader by rules: operators, and a text whole: plain mathematics.
-/
namespace PureRd
open PureCnf PureForm Go.Proofs.YtdkboifpdodonacGreatDoor
set_option maxRecDepth 100000

variable {l : List UInt8}
theorem opn_same {w : Wt} {st : List Wt} (h : w.kind = 5) : opnOf (w :: st) = opnOf st := by simp [opnOf, h]

/-! ### operators that lean to the left -/
theorem left_start {b : Nat} {q q' : Q} {v : Go.Value} (h : Rel l (Pre0 (b + 1)) (b + 1) q v q') : Rel l (Pre0 b) (b + 1) q v q' := h.weak (fun _ hp => hp.up (by omega))
theorem left_end {b op : Nat} {q q' : Q} {v : Go.Value} (h : Rel l (Pre0 b) (b + 1) q v q') (hk : q'.kind l ≠ op) (hb : ∀ o, 6 ≤ o → o ≤ 10 → bindsN o = b → o = op) : Rel l (Pre0 b) b q v q' := by
 refine ⟨h.mono, fun s a c d e => ?_⟩
 refine (h.run s a c d e).mono (fun hn s' hs => ?_)
 obtain ⟨t, P, e1, e2, e3⟩ := hs
 refine ⟨t, P, e1, e2, ⟨e3.want, e3.st, e3.out, e3.kinds, fun h7 => ⟨?_, (e3.next h7).2⟩⟩⟩
 have h1 := (e3.next h7).1
 have hf := (next_fair l q'.at_).op h7
 have h2 : bindsN (nextT l q'.at_).n ≠ b := fun x => by
  have := hb _ hf.1 hf.2 x
  refine hk ?_
  unfold Q.kind
  rw [if_pos hn, (kinds_next l q'.at_).n7 h7]
  exact this
 omega
theorem left_round {b op : Nat} {q q' q'' : Q} {v v2 : Go.Value} (hop : 6 ≤ op ∧ op ≤ 10) (h9 : op ≠ 9) (hb : bindsN op = b) (h : Rel l (Pre0 b) (b + 1) q v q') (hk : q'.kind l = op) (h2 : Rel l (Pre0 (b + 1)) (b + 1) (q'.passN l) v2 q'') :
  Rel l (Pre0 b) (b + 1) q (.iface 94 (.agg #[.int .i64 op, v, v2])) q'' := by
 obtain ⟨hq', ek⟩ := kind_tok hk (by omega)
 have kk := kinds_next l q'.at_
 have k7 := kk.k7.1 (by omega)
 have en : (nextT l q'.at_).n = op := by rw [← kk.n7 k7, ek]
 have m1 : Mono l 0 q' (q'.passN l) := mono_passN (fun _ => by omega)
 have n1 := h.mono.trans m1
 refine ⟨n1.trans h2.mono, fun s hq hp hm ho => ?_⟩
 have k1 := (h.run s hq hp hm ho).passN (S2 := fun s' => ∃ t m u, v = tv t ∧ t.good ∧ s' = { s with st := ⟨5, op, 0⟩ :: s.st, out := s.out ++ t.post, made := m, want := 0, quant := u }) (fun _ => by omega) (fun _ => by omega) (fun hn x hx hmx => by
  obtain ⟨t, P, e1, e2, e3⟩ := hx
  have hw := e3.want
  have hset : settleOps op x.st x.out = (s.st, s.out ++ t.post) := by
   rw [e3.st, settleOps_P op _ _ _ (by rw [← en]; exact (e3.next k7).2), e3.out]
   exact settleOps_base _ hp.2 (by omega)
  have hs : stepP x (nextT l q'.at_) = if 65536 ≤ x.made then .error 8 else .ok (.inl { x with st := ⟨5, op, 0⟩ :: s.st, out := s.out ++ t.post, made := x.made + 1, want := 0 }) := by
   unfold stepP
   rw [if_neg (by omega), if_neg (by omega), if_neg (by omega), if_neg (by omega), if_neg (by omega), if_pos k7, en, hset]
  exact ⟨fun hg => by rw [hs, if_pos hg], fun hg => ⟨_, by rw [hs, if_neg (by omega)], rfl, t, x.made + 1, x.quant, e1, e2, rfl⟩⟩)
 refine k1.call h2 (fun hn x hx hmx => ?_) (fun _ _ x t2 P s' hx e1 e2 e3 => ?_)
 ·obtain ⟨t, m, u, _, _, rfl⟩ := hx
  refine ⟨⟨rfl, ?_⟩, ?_⟩
  ·intro w hw o hle
   simp at hw
   subst hw
   simp [gives]
   omega
  ·have := (n1.live hn).1
   rw [show opnOf (({ s with st := ⟨5, op, 0⟩ :: s.st, out := s.out ++ t.post, made := m, want := 0, quant := u } : PS).st) = opnOf s.st from opn_same rfl]
   omega
 ·obtain ⟨t, m, u, d1, d2, rfl⟩ := hx
  refine ⟨.bi ((op : Int), 0) t t2, P ++ [⟨5, op, 0⟩], by rw [d1, e1]; rfl, ⟨⟨by simp [two]; omega, rfl⟩, d2, e2⟩, ⟨e3.want, by rw [e3.st]; simp, ?_, ?_, ?_⟩⟩
  ·have := e3.out
   simp only at this
   rw [List.map_append, ← List.append_assoc, this]
   simp [Tr.post_lf, Tr.post_un, Tr.post_bi, Tr.post_te, nodeOf]
  ·intro w hw
   rcases List.mem_append.1 hw with h' | h'
   ·exact e3.kinds w h'
   ·simp at h'; subst h'; simp
  ·intro h7
   have hlt := (e3.next h7).1
   refine ⟨hlt, fun w hw => ?_⟩
   rcases List.mem_append.1 hw with h' | h'
   ·exact (e3.next h7).2 w h'
   ·simp at h'
    subst h'
    have hle : bindsN (nextT l q''.at_).n ≤ bindsN op := by omega
    have hne : ¬ (bindsN op = bindsN (nextT l q''.at_).n ∧ (nextT l q''.at_).n = 9) := by
     rintro ⟨x1, x2⟩
     rw [x2] at x1
     have x3 : bindsN op = 2 := x1
     refine h9 ?_
     unfold bindsN at x3
     repeat' split at x3
     all_goals omega
    unfold gives
    simp
    exact ⟨hle, Classical.not_and_iff_not_or_not.1 hne⟩

/-! ### the operator that leans to the right -/
/-- operands with implications between them, all of which wait. -/
def postsOf (ts : List Tr) : List Nd := ts.flatMap Tr.post
structure RestI (s : PS) (ts : List Tr) (P : List Wt) (s' : PS) (t : PureForm.Tok) : Prop where
 want : s'.want = 1
 st : s'.st = P ++ (List.replicate (ts.length - 1) ⟨5, 9, 0⟩ ++ s.st)
 out : s'.out ++ P.map nodeOf = s.out ++ postsOf ts
 kinds : ∀ w ∈ P, w.kind ≠ 3 ∧ w.kind ≠ 4
 next : t.kind = 7 → bindsN t.n < 3 ∧ ∀ w ∈ P, gives t.n w = true
structure RelI (l : List UInt8) (q : Q) (vs : List Go.Value) (q' : Q) : Prop where
 mono : Mono l 0 q q'
 run : ∀ s, q.fault = none → Pre0 2 s → s.made = q.made → opnOf s.st = q.opn →
  K l (runP s (toksFrom l q.at_)) q' (fun s' => ∃ ts P, ts ≠ [] ∧ vs = ts.map tv ∧ (∀ t ∈ ts, t.good) ∧ RestI s ts P s' (nextT l q'.at_))
theorem opn_rep (n : Nat) (st : List Wt) : opnOf (List.replicate n (⟨5, 9, 0⟩ : Wt) ++ st) = opnOf st := by
 induction n with
 | zero => rfl
 | succ n ih => rw [List.replicate_succ, List.cons_append, opn_same rfl, ih]
theorem imp_start {q q' : Q} {v : Go.Value} (h : Rel l (Pre0 3) 3 q v q') : RelI l q [v] q' := by
 refine ⟨h.mono, fun s a c d e => ?_⟩
 refine (h.run s a (c.up (by omega)) d e).mono (fun hn s' hs => ?_)
 obtain ⟨t, P, e1, e2, e3⟩ := hs
 exact ⟨[t], P, by simp, by simp [e1], by simpa using e2, ⟨e3.want, by simpa using e3.st, by simpa [postsOf] using e3.out, e3.kinds, e3.next⟩⟩
theorem imp_round {q q' q'' : Q} {vs : List Go.Value} {v2 : Go.Value} (h : RelI l q vs q') (hk : q'.kind l = 9) (h2 : Rel l (Pre0 3) 3 (q'.passN l) v2 q'') : RelI l q (vs ++ [v2]) q'' := by
 obtain ⟨hq', ek⟩ := kind_tok hk (by omega)
 have kk := kinds_next l q'.at_
 have k7 := kk.k7.1 (by omega)
 have en : (nextT l q'.at_).n = 9 := by rw [← kk.n7 k7, ek]
 have m1 : Mono l 0 q' (q'.passN l) := mono_passN (fun _ => by omega)
 have n1 := h.mono.trans m1
 refine ⟨n1.trans h2.mono, fun s hq hp hm ho => ?_⟩
 have k1 := (h.run s hq hp hm ho).passN (S2 := fun s' => ∃ ts m u, ts ≠ [] ∧ vs = ts.map tv ∧ (∀ t ∈ ts, t.good) ∧ s' = { s with st := List.replicate ts.length ⟨5, 9, 0⟩ ++ s.st, out := s.out ++ postsOf ts, made := m, want := 0, quant := u }) (fun _ => by omega) (fun _ => by omega) (fun hn x hx hmx => by
  obtain ⟨ts, P, e0, e1, e2, e3⟩ := hx
  have hw := e3.want
  have hlen : ts.length = (ts.length - 1) + 1 := by
   have : 0 < ts.length := List.length_pos_iff.2 e0
   omega
  have hset : settleOps 9 x.st x.out = (List.replicate (ts.length - 1) ⟨5, 9, 0⟩ ++ s.st, s.out ++ postsOf ts) := by
   rw [e3.st, settleOps_P 9 _ _ _ (by rw [← en]; exact (e3.next k7).2), e3.out]
   cases hl : ts.length - 1 with
   | zero => exact settleOps_base _ hp.2 (by decide)
   | succ n =>
    rw [List.replicate_succ, List.cons_append, settleOps, if_neg (by decide)]
  have hs : stepP x (nextT l q'.at_) = if 65536 ≤ x.made then .error 8 else .ok (.inl { x with st := List.replicate ts.length ⟨5, 9, 0⟩ ++ s.st, out := s.out ++ postsOf ts, made := x.made + 1, want := 0 }) := by
   unfold stepP
   rw [if_neg (by omega), if_neg (by omega), if_neg (by omega), if_neg (by omega), if_neg (by omega), if_pos k7, en, hset, hlen, List.replicate_succ, List.cons_append]
   simp
  exact ⟨fun hg => by rw [hs, if_pos hg], fun hg => ⟨_, by rw [hs, if_neg (by omega)], rfl, ts, x.made + 1, x.quant, e0, e1, e2, rfl⟩⟩)
 refine k1.call h2 (fun hn x hx hmx => ?_) (fun _ _ x t2 P s' hx e1 e2 e3 => ?_)
 ·obtain ⟨ts, m, u, e0, _, _, rfl⟩ := hx
  refine ⟨⟨rfl, ?_⟩, ?_⟩
  ·intro w hw o hle
   cases hts : ts with
   | nil => exact absurd hts e0
   | cons a r =>
    rw [hts] at hw
    simp [List.replicate_succ] at hw
    subst hw
    simp [gives]
    rw [show bindsN 9 = 2 from rfl]
    omega
  ·have := (n1.live hn).1
   rw [show opnOf (({ s with st := List.replicate ts.length ⟨5, 9, 0⟩ ++ s.st, out := s.out ++ postsOf ts, made := m, want := 0, quant := u } : PS).st) = opnOf s.st from opn_rep _ _]
   omega
 ·obtain ⟨ts, m, u, e0, d1, d2, rfl⟩ := hx
  refine ⟨ts ++ [t2], P, by simp, by simp [d1, e1], ?_, ⟨e3.want, by rw [e3.st]; simp, ?_, e3.kinds, e3.next⟩⟩
  ·intro t ht
   rcases List.mem_append.1 ht with h' | h'
   ·exact d2 t h'
   ·simp at h'; subst h'; exact e2
  ·have := e3.out
   simp only at this
   rw [this]
   simp [postsOf]
/-- the implications joined, the last ones first. -/
def joinI : List Tr → Tr
 | [] => .lf (1, 0)
 | [t] => t
 | t :: t2 :: r => .bi (9, 0) t (joinI (t2 :: r))
def joinV : List Go.Value → Go.Value
 | [] => .nilIface
 | [v] => v
 | v :: v2 :: r => .iface 94 (.agg #[.int .i64 9, v, joinV (v2 :: r)])
theorem joinV_tv : ∀ ts : List Tr, ts ≠ [] → joinV (ts.map tv) = tv (joinI ts)
 | [], h => absurd rfl h
 | [t], _ => rfl
 | t :: t2 :: r, _ => by
  have := joinV_tv (t2 :: r) (by simp)
  rw [List.map_cons] at this
  rw [List.map_cons, List.map_cons, joinV, this]
  rfl
theorem joinI_good : ∀ ts : List Tr, ts ≠ [] → (∀ t ∈ ts, t.good) → (joinI ts).good ∧ (joinI ts).post = postsOf ts ++ List.replicate (ts.length - 1) (9, 0)
 | [], h, _ => absurd rfl h
 | [t], _, h => ⟨h t (by simp), by simp [joinI, postsOf]⟩
 | t :: t2 :: r, _, h => by
  obtain ⟨h1, h2⟩ := joinI_good (t2 :: r) (by simp) (fun x hx => h x (List.mem_cons_of_mem _ hx))
  refine ⟨⟨⟨by simp [two], rfl⟩, h t (by simp), h1⟩, ?_⟩
  show t.post ++ (joinI (t2 :: r)).post ++ [(9, 0)] = _
  rw [h2]
  simp only [postsOf, List.flatMap_cons, List.length_cons, Nat.add_sub_cancel]
  rw [List.replicate_succ' (n := r.length)]
  simp
theorem imp_end {q q' : Q} {vs : List Go.Value} (h : RelI l q vs q') (hk : q'.kind l ≠ 9) : Rel l (Pre0 2) 2 q (joinV vs) q' := by
 refine ⟨h.mono, fun s a c d e => ?_⟩
 refine (h.run s a c d e).mono (fun hn s' hs => ?_)
 obtain ⟨ts, P, e0, e1, e2, e3⟩ := hs
 obtain ⟨g1, g2⟩ := joinI_good ts e0 e2
 refine ⟨joinI ts, P ++ List.replicate (ts.length - 1) ⟨5, 9, 0⟩, by rw [e1, joinV_tv ts e0], g1, ⟨e3.want, by rw [e3.st]; simp, ?_, ?_, ?_⟩⟩
 ·rw [g2, List.map_append, ← List.append_assoc, e3.out, List.map_replicate]
  simp [nodeOf]
 ·intro w hw
  rcases List.mem_append.1 hw with h' | h'
  ·exact e3.kinds w h'
  ·rw [List.eq_of_mem_replicate h']; simp
 ·intro h7
  have h1 := (e3.next h7).1
  have hf := (next_fair l q'.at_).op h7
  have h2 : (nextT l q'.at_).n ≠ 9 := fun x => hk (by unfold Q.kind; rw [if_pos hn, (kinds_next l q'.at_).n7 h7]; exact x)
  have h10 : (nextT l q'.at_).n = 10 := by
   unfold bindsN at h1
   repeat' split at h1
   all_goals omega
  refine ⟨by rw [h10]; decide, fun w hw => ?_⟩
  rcases List.mem_append.1 hw with h' | h'
  ·exact (e3.next h7).2 w h'
  ·rw [List.eq_of_mem_replicate h', h10]; decide

/-! ### a text -/
theorem read_all {q' : Q} {v : Go.Value} (hl : l.length ≤ 1048576) (h : Rel l (Pre0 1) 1 ⟨none, 0, 0, 0⟩ v q') :
  (∀ f, (q'.pass l 16).fault = some f → parseF l = .error (f.1, some f.2)) ∧ ((q'.pass l 16).fault = none → ∃ t, v = tv t ∧ t.good ∧ parseF l = .ok t.post) := by
 have k := h.run ⟨[], [], 0, 0, 0⟩ rfl ⟨rfl, fun w hw => by simp at hw⟩ rfl rfl
 cases hq : q'.fault with
 | some f =>
  have e : (q'.pass l 16).fault = some f := by
   unfold Q.pass Q.ref
   rw [if_neg (by rw [kind_dead hq]; decide), if_neg (by rw [hq]; simp), hq]
  rw [e]
  refine ⟨fun g hg => ?_, fun hn => by cases hn⟩
  cases hg
  exact parseF_err hl (k.1 f hq)
 | none =>
  obtain ⟨s, ⟨t, P, e1, e2, e3⟩, hm, hr⟩ := k.2 hq
  have hst : settleIn s.st s.out = ([], t.post) := by
   rw [e3.st, settleIn_P _ _ _ e3.kinds, e3.out]
   simp [settleIn]
  have hw := e3.want
  have ek : q'.kind l = kindL (nextT l q'.at_) := by unfold Q.kind; rw [if_pos hq]
  unfold Q.pass
  split
  ·next h16 =>
   rw [ek] at h16
   have k0 := (kinds_next l q'.at_).k0.1 h16
   have hs : stepP s (nextT l q'.at_) = .ok (.inr t.post) := by
    unfold stepP
    rw [if_neg (by omega), if_neg (by omega), if_neg (by omega), if_neg (by omega), if_neg (by omega), if_neg (by omega), if_neg (by omega), if_neg (by omega), if_pos k0]
    unfold endsP
    rw [hst]
   unfold Q.adv
   rw [if_pos hq]
   refine ⟨fun f hf => by simp [Q.step, hq] at hf, fun _ => ⟨t, e1, e2, ?_⟩⟩
   exact parseF_ok hl (by rw [hr]; exact run_done hs)
  ·next h16 =>
   rw [ek] at h16
   unfold Q.ref
   rw [if_pos hq]
   refine ⟨fun f hf => ?_, fun hn => by simp [Q.err] at hn⟩
   simp only [Q.err, Option.some.injEq] at hf
   rw [← hf]
   have hs : stepP s (nextT l q'.at_) = .error (errc (nextT l q'.at_) 131) := by
    refine step_wrong hw (rest_no7 e3) (fun h9 => ?_) (fun h => ?_) (fun h => absurd ((kinds_next l _).k0.2 h) h16)
    ·unfold closesP; rw [hst]
    ·unfold commaP; rw [hst]
   exact parseF_err hl (by rw [hr]; exact run_err hs)
end PureRd
