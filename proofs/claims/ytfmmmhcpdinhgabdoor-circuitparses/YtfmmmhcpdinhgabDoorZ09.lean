import Derived.Test.YtfmmmhcpdinhgabDoorZ08
/-
  The document's form, operator and fault.
-/
namespace Go.Proofs.YtfmmmhcpdinhgabDoor
open Go.RowKit Go.Deep PureNet PureRd ShfKit
set_option maxRecDepth 100000

set_option maxHeartbeats 1000000 in
theorem form_any (k : List UInt8) (w : World) : Calls Tryd.prog 39 #[str k] w fun e w' => e = .returned (str (formW k)) ∧ w' = w := by
  have HF : Hid (formW k = if k = [105, 110, 112, 117, 116] then [110] else if k = [103, 97, 116, 101] then [110, 111, 117, 117] else if k = [109, 117, 120] then [110, 117, 117, 117] else if k = [108, 97, 116, 99, 104] then [110, 102, 117] else if k = [111, 117, 116, 112, 117, 116] then [117] else []) := rfl
  by_cases a1 : k = [105, 110, 112, 117, 116]
  · subst a1
    go_enter Tryd.func39, Tryd.ntmps39
    go_wp2
    go_ret
    exact ⟨rfl, rfl⟩
  · have e1 : (k == [105, 110, 112, 117, 116]) = false := by simpa using a1
    by_cases a2 : k = [103, 97, 116, 101]
    · subst a2
      go_enter Tryd.func39, Tryd.ntmps39
      go_wp2
      go_ret
      exact ⟨rfl, rfl⟩
    · have e2 : (k == [103, 97, 116, 101]) = false := by simpa using a2
      by_cases a3 : k = [109, 117, 120]
      · subst a3
        go_enter Tryd.func39, Tryd.ntmps39
        go_wp2
        go_ret
        exact ⟨rfl, rfl⟩
      · have e3 : (k == [109, 117, 120]) = false := by simpa using a3
        by_cases a4 : k = [108, 97, 116, 99, 104]
        · subst a4
          go_enter Tryd.func39, Tryd.ntmps39
          go_wp2
          go_ret
          exact ⟨rfl, rfl⟩
        · have e4 : (k == [108, 97, 116, 99, 104]) = false := by simpa using a4
          by_cases a5 : k = [111, 117, 116, 112, 117, 116]
          · subst a5
            go_enter Tryd.func39, Tryd.ntmps39
            go_wp2
            go_ret
            exact ⟨rfl, rfl⟩
          · have e5 : (k == [111, 117, 116, 112, 117, 116]) = false := by simpa using a5
            have HV : Hid (formW k = []) := by show _ = _; rw [HF.out, if_neg a1, if_neg a2, if_neg a3, if_neg a4, if_neg a5]
            clear a1 a2 a3 a4 a5 HF
            go_enter Tryd.func39, Tryd.ntmps39
            go_wp2
            go_ret
            exact ⟨by rw [HV.out]; rfl, rfl⟩

/-- the document's table of operators, in memory. -/
structure OpsD (W : World) (T : Nat → List UInt8) : Prop where
  pos : 0 < W.heap.size
  word : ∀ k : Nat, k < 16 → W.cell? ⟨0, k, none⟩ = some (str (T k))
theorem OpsD.on {w W : World} {T : Nat → List UInt8} {B : Nat} (h : OpsD w T) (hb : Below B w W) (hB : 0 < B) : OpsD W T := ⟨Nat.lt_of_lt_of_le h.pos hb.size, fun k hk => (hb.cell (p := ⟨0, k, none⟩) hB).trans (h.word k hk)⟩
set_option maxHeartbeats 2000000 in
theorem operator_doc (T : Nat → List UInt8) (l : List UInt8) (w : World) (h : OpsD w T) : Calls Tryd.prog 40 #[str l] w fun e w' => e = .returned (.int .i64 (opF T l)) ∧ w' = w := by
  have HO := hid h
  have hp := h.pos
  clear h
  go_enter Tryd.func40, Tryd.ntmps40
  go_wp2
  go_loopw [3] (fun iv W => W = w ∧ ∃ i : Nat, i ≤ 16 ∧ iv = .int .i64 (i : Int) ∧ Hid (opF T l = opFrom T l (16 - i) i)) (fun iv _ => 16 - (intOf iv).toNat)
  case atStart => exact ⟨rfl, 0, by omega, rfl, rfl⟩
  case round =>
    obtain ⟨rfl, i, hi, rfl, HR⟩ := hrel
    by_cases hlt : i < 16
    · have cw := HO.out.word i hlt
      obtain ⟨m, hm⟩ : ∃ m, 16 - i = m + 1 := ⟨15 - i, by omega⟩
      have HU : Hid (opF T l = if T i = l then (i : Int) else opFrom T l (16 - (i + 1)) (i + 1)) := by
        have h := HR.out
        rw [hm, opFrom] at h
        rw [show 16 - (i + 1) = m by omega]
        exact h
      clear hm HR
      by_cases he : T i = l
      · have e1 : (T i == l) = true := by simpa using he
        have HV : Hid (opF T l = (i : Int)) := by show _ = _; rw [HU.out, if_pos he]
        clear he
        go_wp2
        go_ret
        exact ⟨by rw [HV.out]; rfl, rfl⟩
      · have e1 : (T i == l) = false := by simpa using he
        have HV : Hid (opF T l = opFrom T l (16 - (i + 1)) (i + 1)) := by show _ = _; rw [HU.out, if_neg he]
        clear he
        go_wp2
        exact ⟨⟨by first | rfl | trivial, i + 1, hlt, by go_num, HV.out⟩, by simp [intOf] <;> omega⟩
    · have hie : i = 16 := by omega
      subst hie
      have HV : Hid (opF T l = -1) := by show _ = _; rw [HR.out]; rfl
      clear HR
      go_wp2
      go_ret
      exact ⟨by rw [HV.out]; rfl, rfl⟩
set_option maxHeartbeats 1000000 in
theorem fault_any (c a b : Int) (w : World) : Calls Tryd.prog 10 #[.int .i64 c, .agg #[.int .i64 a, .int .i64 b]] w fun e w' => e = .returned (.agg #[.int .i64 c, .int .i64 a, .int .i64 b]) ∧ Below w.heap.size w w' := by
  obtain ⟨WA, hWA⟩ : ∃ WA, WA = (w.alloc (Obj.cells #[.int .i64 a, .int .i64 b] 28)).alloc (Obj.cells #[.int .i64 0, .int .i64 0, .int .i64 0] 30) := ⟨_, rfl⟩
  have hB : Below w.heap.size w WA := by rw [hWA]; exact ((Below.refl _ _).alloc (Nat.le_refl _) _).alloc (by simp) _
  have r0 : WA.heap[w.heap.size]? = some (.cells #[.int .i64 a, .int .i64 b] 28 (0, 0)) := by rw [hWA, Lib.alloc_old _ _ _ (by simp)]; exact heap_alloc_new w _
  have r1 : WA.heap[w.heap.size + 1]? = some (.cells #[.int .i64 0, .int .i64 0, .int .i64 0] 30 (0, 0)) := by
    have := heap_alloc_new (w.alloc (Obj.cells #[.int .i64 a, .int .i64 b] 28)) (Obj.cells #[.int .i64 0, .int .i64 0, .int .i64 0] 30)
    rw [hWA]; simpa using this
  have c0 := fun j => cell_row r0 j
  have c1 := fun j => cell_row r1 j
  have f1 := fun j => unfrozen_row r1 j
  have FIN : Hid (Below w.heap.size w (((WA.setCell ⟨w.heap.size + 1, 0, none⟩ (.int .i64 c)).setCell ⟨w.heap.size + 1, 1, none⟩ (.int .i64 a)).setCell ⟨w.heap.size + 1, 2, none⟩ (.int .i64 b))) := ((hB.setCell (p := ⟨w.heap.size + 1, 0, none⟩) (by simp) _).setCell (p := ⟨w.heap.size + 1, 1, none⟩) (by simp) _).setCell (p := ⟨w.heap.size + 1, 2, none⟩) (by simp) _
  have HWA := hid hWA
  clear hWA hB r1 r0
  go_enter Tryd.func10, Tryd.ntmps10
  go_wp2_with (rw [← HWA.out])
  exact bodyPost_ret (v := .agg #[.int .i64 c, .int .i64 a, .int .i64 b]) (by simp [results, Tryd.results10, go_sem, c1]) rfl ⟨rfl, FIN.out⟩
end Go.Proofs.YtfmmmhcpdinhgabDoor
/-
  The document's reading: a line with words.
-/
namespace Go.Proofs.YtfmmmhcpdinhgabDoor
open Go.RowKit Go.Deep PureNet PureRd
set_option maxRecDepth 100000

def gatesOf (ls : List Ln) : List Ga := (ls.filter (fun l => l.kind != 0)).map fun l => ⟨l.kind, ⟨l.name.toArray⟩, l.op, 0, 0, 0⟩
def usOf (g : Int) (us : List Wd) : List Us := us.zipIdx.map fun y => ⟨y.1, g, (y.2 : Int)⟩
def usesOf : Nat → List Ln → List Us
  | _, [] => []
  | j, l :: t => if l.kind = 0 then usOf (-1) l.uses ++ usesOf j t else usOf (j : Int) l.uses ++ usesOf (j + 1) t
/-- what the reader knows, as the document keeps it. -/
def dOf (s : Rs) : Db := ⟨s.cname, gatesOf s.lines, s.outs, s.names, usesOf 0 s.lines, s.mode == 2, placeOf s, s.names.length⟩
def faV (text : List UInt8) (p : Int × Nat) : Value := .agg #[.int .i64 p.1, .int .i64 ((spotN (text.take p.2)).1 : Int), .int .i64 ((spotN (text.take p.2)).2 : Int)]
/-- blocks of these types stay. -/
def Kp (W W' : World) : Prop := ∀ (k : Nat) (c : Array Value) (ty : TypeId) (fz : Nat × Nat), W.heap[k]? = some (.cells c ty fz) → (ty = 25 ∨ ty = 30 ∨ ty = 53 ∨ ty = 71) → W'.heap[k]? = W.heap[k]?
/-- what a line's reading leaves. -/
def LineIs (w W : World) (r : Nat) (text : List UInt8) (s' : Rs) (e : Ending) (W' : World) : Prop :=
  Below w.heap.size W W' ∧ Kp W W' ∧ ((∃ p, s'.fault = some p ∧ e = .returned (faV text p)) ∨ (s'.fault = none ∧ e = .returned (.agg #[.int .i64 0, .int .i64 0, .int .i64 0]) ∧ ∃ x', Dr w W' r text (dOf s') x'))
theorem wdC_at (text : List UInt8) (ws : List Wd) : ∀ (k j : Nat) (y : Wd), ws[k]? = some y → j < 3 → (wdC text ws)[k * 3 + j]? = (str y.1 :: spI text y.2)[j]? := by
  induction ws with
  | nil => intro k j y h; simp at h
  | cons z t ih =>
    intro k j y h hj
    have e : wdC text (z :: t) = (str z.1 :: spI text z.2) ++ wdC text t := by simp [wdC]
    rw [e]
    cases k with
    | zero =>
      simp at h
      subst h
      rw [Nat.zero_mul, Nat.zero_add, List.getElem?_append_left (by simp [spI]; omega)]
    | succ k =>
      rw [List.getElem?_append_right (by simp [spI]; omega)]
      have : (k + 1) * 3 + j - (str z.1 :: spI text z.2).length = k * 3 + j := by simp [spI]; omega
      rw [this]
      exact ih k j y (by simpa using h) hj
/-- a word of a line, read. -/
theorem WA.word {W : World} {M : Nat} {text : List UInt8} {ws : List Wd} {v : Value} (h : WA W M text ws v) : ∃ g c, v = .slice (some ⟨g, 0, none⟩) ws.length c ∧ g < M ∧ g < W.heap.size ∧ ∀ (k : Nat) (y : Wd), ws[k]? = some y → W.cell? ⟨g, k * 3, none⟩ = some (str y.1) ∧ W.cell? ⟨g, k * 3 + 1, none⟩ = some (.int .i64 ((spotN (text.take y.2)).1 : Int)) ∧ W.cell? ⟨g, k * 3 + 2, none⟩ = some (.int .i64 ((spotN (text.take y.2)).2 : Int)) := by
  obtain ⟨g, c, cur, e, hg, hr, ht⟩ := h
  refine ⟨g, c, e, hg, (Array.getElem?_eq_some_iff.1 hr).1, fun k y hy => ?_⟩
  have hk : k < ws.length := (List.getElem?_eq_some_iff.1 hy).1
  have at_ : ∀ j, j < 3 → W.cell? ⟨g, k * 3 + j, none⟩ = (str y.1 :: spI text y.2)[j]? := fun j hj => by
    rw [cell_row hr, ← wdC_at text ws k j y hy hj, ← ht, List.getElem?_take_of_lt (by omega)]
    simp
  exact ⟨at_ 0 (by omega), at_ 1 (by omega), at_ 2 (by omega)⟩
/-- PRE -/
theorem pre_line {w W : World} {r : Nat} {text : List UInt8} {d : Db} {x : Dx} {ws : List Wd} {v z1 z2 z3 : Value} (h : Dr w W r text d x) (hv : WA W w.heap.size text ws v) (q1 q2 q3 : Value) :
    ∃ WB, WB = ((W.alloc (Obj.cells #[z1, z2, z3] 53)).alloc (Obj.cells #[.int .i64 0, .int .i64 0, .int .i64 0] 30)).alloc (Obj.cells #[q1, q2, q3] 71) ∧ Below W.heap.size W WB ∧ Dr w WB r text d x ∧ WA WB w.heap.size text ws v ∧
      WB.heap[W.heap.size]? = some (.cells #[z1, z2, z3] 53 (0, 0)) ∧ WB.heap[W.heap.size + 1]? = some (.cells #[.int .i64 0, .int .i64 0, .int .i64 0] 30 (0, 0)) ∧ WB.heap[W.heap.size + 1 + 1]? = some (.cells #[q1, q2, q3] 71 (0, 0)) := by
  refine ⟨_, rfl, ?_⟩
  have b : Below W.heap.size W (((W.alloc (Obj.cells #[z1, z2, z3] 53)).alloc (Obj.cells #[.int .i64 0, .int .i64 0, .int .i64 0] 30)).alloc (Obj.cells #[q1, q2, q3] 71)) := (((Below.refl _ _).alloc (Nat.le_refl _) _).alloc (by simp) _).alloc (by simp; omega) _
  refine ⟨b, h.on b, hv.kept (Nat.le_refl _) (fun g _ h2 => b.block g h2), ?_, ?_, ?_⟩
  · rw [Lib.alloc_old _ _ _ (by simp; omega), Lib.alloc_old _ _ _ (by simp)]
    exact heap_alloc_new W _
  · rw [Lib.alloc_old _ _ _ (by simp)]
    have := heap_alloc_new (W.alloc (Obj.cells #[z1, z2, z3] 53)) (Obj.cells #[.int .i64 0, .int .i64 0, .int .i64 0] 30)
    simpa using this
  · have := heap_alloc_new ((W.alloc (Obj.cells #[z1, z2, z3] 53)).alloc (Obj.cells #[.int .i64 0, .int .i64 0, .int .i64 0] 30)) (Obj.cells #[q1, q2, q3] 71)
    simpa using this
theorem kp_below {W W' : World} (b : Below W.heap.size W W') : Kp W W' := fun k _ _ _ h _ => b.block k (Array.getElem?_eq_some_iff.1 h).1
theorem Kp.trans {W W' W'' : World} (h : Kp W W') (h2 : Kp W' W'') : Kp W W'' := fun k c ty fz hk ht => (h2 k c ty fz ((h k c ty fz hk ht).trans hk) ht).trans (h k c ty fz hk ht)
theorem Kp.new {W W' : World} {k i : Nat} {u : Value} (h : Kp W W') (hk : W.heap.size ≤ k) : Kp W (W'.setCell ⟨k, i, none⟩ u) := fun j c ty fz hj ht => (Below.heap_setCell W' _ _ _ (by have := (Array.getElem?_eq_some_iff.1 hj).1; show j ≠ k; omega)).trans (h j c ty fz hj ht)
theorem Kp.ans {W W' : World} {k : Nat} {u1 u2 u3 : Value} (h : Kp W W') (hk : W.heap.size ≤ k) : Kp W (((W'.setCell ⟨k, 0, none⟩ u1).setCell ⟨k, 1, none⟩ u2).setCell ⟨k, 2, none⟩ u3) := ((h.new hk).new hk).new hk
theorem Kp.at49 {W W' : World} {r i : Nat} {u : Value} {c0 : Array Value} {f0 : Nat × Nat} (h : Kp W W') (hr : W.heap[r]? = some (.cells c0 49 f0)) : Kp W (W'.setCell ⟨r, i, none⟩ u) := fun j c ty fz hj ht => (Below.heap_setCell W' _ _ _ (fun e => by
    have e2 : j = r := e
    rw [e2, hr] at hj
    simp at hj
    rw [← hj.2.1] at ht
    exact absurd ht (by decide))).trans (h j c ty fz hj ht)
/-- a fault, put where the answer goes. -/
theorem ans_below {w W w4 : World} {k : Nat} (hk : w.heap.size ≤ k) (b : Below w.heap.size W w4) (u1 u2 u3 : Value) : Below w.heap.size W (((w4.setCell ⟨k, 0, none⟩ u1).setCell ⟨k, 1, none⟩ u2).setCell ⟨k, 2, none⟩ u3) := ((b.setCell (p := ⟨k, 0, none⟩) hk _).setCell (p := ⟨k, 1, none⟩) hk _).setCell (p := ⟨k, 2, none⟩) hk _
theorem Dr.other {w W : World} {r k i : Nat} {text : List UInt8} {d : Db} {x : Dx} {cs : Array Value} {fz : Nat × Nat} (h : Dr w W r text d x) (hk : W.heap[k]? = some (.cells cs 30 fz)) (hl : w.heap.size ≤ k) (u : Value) : Dr w (W.setCell ⟨k, i, none⟩ u) r text d x := by
  have keep : ∀ {e size n1 : Nat} {v : Value} {xs : List Value}, W.ownsRow w.heap.size e size v n1 xs → e ≠ 30 → (W.setCell ⟨k, i, none⟩ u).ownsRow w.heap.size e size v n1 xs := fun ho h2 => ownsRow_store2 ho hk (Ne.symm h2)
  have n1 : r ≠ k := fun e => by
    have h1 := h.box
    rw [e, hk] at h1
    simp at h1
  have n2 : x.kb ≠ k := fun e => by
    have h1 := h.krow
    rw [e, hk] at h1
    simp at h1
  exact ⟨(Below.heap_setCell W _ _ _ n1).trans h.box, h.low, (Below.heap_setCell W _ _ _ n2).trans h.krow, h.klow, keep h.kon (by decide), keep h.kop (by decide), keep h.gates (by decide), keep h.outs (by decide), keep h.ats (by decide), keep h.uses (by decide), h.two, h.hPl, h.rise, h.pl, h.below.setCell (p := ⟨k, i, none⟩) hl _, h.nn⟩
theorem Dr.ans {w W : World} {r k : Nat} {text : List UInt8} {d : Db} {x : Dx} {cs : Array Value} (h : Dr w W r text d x) (hk : W.heap[k]? = some (.cells cs 30 (0, 0))) (hl : w.heap.size ≤ k) (u1 u2 u3 : Value) : Dr w (((W.setCell ⟨k, 0, none⟩ u1).setCell ⟨k, 1, none⟩ u2).setCell ⟨k, 2, none⟩ u3) r text d x :=
  ((h.other hk hl u1).other (row_set hk) hl u2).other (row_set (row_set hk)) hl u3
theorem line_res {w w3 : World} {r : Nat} {text : List UInt8} {s' : Rs} {e : Ending} (h : (∃ p, s'.fault = some p ∧ e = .returned (faV text p)) ∨ (s'.fault = none ∧ e = .returned (.agg #[.int .i64 0, .int .i64 0, .int .i64 0]) ∧ ∃ x', Dr w w3 r text (dOf s') x')) :
    ∃ A B C : Int, e = .returned (.agg #[.int .i64 A, .int .i64 B, .int .i64 C]) ∧ Hid ((∃ p, s'.fault = some p ∧ faV text p = .agg #[.int .i64 A, .int .i64 B, .int .i64 C]) ∨ (s'.fault = none ∧ Value.agg #[.int .i64 A, .int .i64 B, .int .i64 C] = .agg #[.int .i64 0, .int .i64 0, .int .i64 0] ∧ ∃ x', Dr w w3 r text (dOf s') x')) := by
  rcases h with ⟨p, h1, rfl⟩ | ⟨h1, rfl, h2⟩
  · exact ⟨_, _, _, rfl, .inl ⟨p, h1, rfl⟩⟩
  · exact ⟨0, 0, 0, rfl, .inr ⟨h1, rfl, h2⟩⟩
set_option maxHeartbeats 8000000 in
theorem line1 (T : Nat → List UInt8) (w W : World) (r : Nat) (text : List UInt8) (s : Rs) (x : Dx) (y : Wd) (t : List Wd) (v e1 e2 : Value) (h : Dr w W r text (dOf s) x) (hv : WA W w.heap.size text (y :: t) v) (hf : s.fault = none) (hm : s.mode = 0) (hy : y.1 ≠ cirW) :
    Calls Tryd.prog 12 #[.pointer (some ⟨r, 0, none⟩), .agg #[v, e1, e2], .bool (s.mode == 0)] W (LineIs w W r text (lineF T (y :: t) s)) := by
  obtain ⟨a0, ha0⟩ : ∃ a0 : Int, a0 = ((spotN (text.take y.2)).1 : Int) := ⟨_, rfl⟩
  obtain ⟨b0, hb0⟩ : ∃ b0 : Int, b0 = ((spotN (text.take y.2)).2 : Int) := ⟨_, rfl⟩
  obtain ⟨g, c, rfl, hgM, hgW, wc⟩ := hv.word
  obtain ⟨WB, hWB, bb, hd, hv2, r53, r30, r71⟩ := pre_line (z1 := .slice (some ⟨g, 0, none⟩) (t.length + 1) c) (z2 := e1) (z3 := e2) h hv (str y.1) (.int .i64 a0) (.int .i64 b0)
  obtain ⟨k0, k1, k2⟩ := wc 0 y rfl
  rw [← ha0] at k1
  rw [← hb0] at k2
  have hrB := hd.size
  have hsz : W.heap.size + 1 + 1 < WB.heap.size := (Array.getElem?_eq_some_iff.1 r71).1
  have HW : Hid (w.heap.size ≤ W.heap.size) := h.below.size
  have BB := hid bb
  have HBX := hid h.box
  have DD := hid hd
  have c53 := fun j => cell_row r53 j
  have c71 := fun j => cell_row r71 j
  have R30 := hid r30
  have cr := cell_row hd.box 6
  obtain ⟨g', c', hgc, _, _, wc2⟩ := hv2.word
  simp only [Value.slice.injEq, Option.some.injEq, Addr.mk.injEq, and_true, true_and] at hgc
  obtain ⟨rfl, rfl⟩ := hgc
  rw [List.length_cons]
  have HWB := hid hWB
  have FC := hid (fun W a b => fault_any 140 a b W)
  have hm6 : (rcells (dOf s) x)[6]? = some (.bool (s.mode == 2)) := rfl
  rw [hm6] at cr
  have HFL : Hid ((lineF T (y :: t) s).fault = some (140, y.2)) := line_not_head T hf hm hy
  have HFV : Hid (faV text (140, y.2) = .agg #[.int .i64 140, .int .i64 a0, .int .i64 b0]) := by show _ = _; rw [ha0, hb0]; rfl
  have hm1 : (s.mode == 0) = true := by rw [hm]; rfl
  have hy1 : (y.1 == [99, 105, 114, 99, 117, 105, 116]) = false := by simpa [cirW] using hy
  have hy2 : (y.1 != [99, 105, 114, 99, 117, 105, 116]) = true := by simp [bne, hy1]
  rw [hm1]
  clear ha0 hb0 wc wc2 hm hy cr hm6
  clear h hv hd hv2 bb hWB r53 r30 r71
  go_enter Tryd.func12, Tryd.ntmps12
  go_wp2_with (first
    | (rw [← HWB.out])
    | (go_at_call 10; refine (FC.out _ _ _).mono ?_; rintro e w4 ⟨rfl, b4⟩; have B4 : Hid (Below W.heap.size W w4) := BB.out.trans (b4.mono BB.out.size); have r4 := (b4.block _ (by omega)).trans R30.out; have c4 := fun j => cell_row r4 j; have f4 := fun j => unfrozen_row r4 j; have hs4 : W.heap.size + 1 < w4.heap.size := (Array.getElem?_eq_some_iff.1 r4).1; clear b4 r4))
  exact bodyPost_ret (v := .agg #[.int .i64 140, .int .i64 a0, .int .i64 b0]) (by simp [results, Tryd.results12, go_sem, c4]) rfl ⟨ans_below (by have := HW.out; omega) (B4.out.mono HW.out) _ _ _, (kp_below B4.out).ans (by omega), .inl ⟨_, HFL.out, congrArg _ HFV.out.symm⟩⟩
set_option maxHeartbeats 8000000 in
theorem line2 (T : Nat → List UInt8) (w W : World) (r : Nat) (text : List UInt8) (s : Rs) (x : Dx) (y : Wd) (t : List Wd) (v e1 e2 : Value) (h : Dr w W r text (dOf s) x) (hv : WA W w.heap.size text (y :: t) v) (hf : s.fault = none) (hm : s.mode = 2) :
    Calls Tryd.prog 12 #[.pointer (some ⟨r, 0, none⟩), .agg #[v, e1, e2], .bool (s.mode == 0)] W (LineIs w W r text (lineF T (y :: t) s)) := by
  obtain ⟨a0, ha0⟩ : ∃ a0 : Int, a0 = ((spotN (text.take y.2)).1 : Int) := ⟨_, rfl⟩
  obtain ⟨b0, hb0⟩ : ∃ b0 : Int, b0 = ((spotN (text.take y.2)).2 : Int) := ⟨_, rfl⟩
  obtain ⟨g, c, rfl, hgM, hgW, wc⟩ := hv.word
  obtain ⟨WB, hWB, bb, hd, hv2, r53, r30, r71⟩ := pre_line (z1 := .slice (some ⟨g, 0, none⟩) (t.length + 1) c) (z2 := e1) (z3 := e2) h hv (str y.1) (.int .i64 a0) (.int .i64 b0)
  obtain ⟨k0, k1, k2⟩ := wc 0 y rfl
  rw [← ha0] at k1
  rw [← hb0] at k2
  have hrB := hd.size
  have hsz : W.heap.size + 1 + 1 < WB.heap.size := (Array.getElem?_eq_some_iff.1 r71).1
  have HW : Hid (w.heap.size ≤ W.heap.size) := h.below.size
  have BB := hid bb
  have HBX := hid h.box
  have DD := hid hd
  have c53 := fun j => cell_row r53 j
  have c71 := fun j => cell_row r71 j
  have R30 := hid r30
  have cr := cell_row hd.box 6
  obtain ⟨g', c', hgc, _, _, wc2⟩ := hv2.word
  simp only [Value.slice.injEq, Option.some.injEq, Addr.mk.injEq, and_true, true_and] at hgc
  obtain ⟨rfl, rfl⟩ := hgc
  rw [List.length_cons]
  have HWB := hid hWB
  have FC := hid (fun W a b => fault_any 140 a b W)
  have hm6 : (rcells (dOf s) x)[6]? = some (.bool (s.mode == 2)) := rfl
  rw [hm6] at cr
  have HFL : Hid ((lineF T (y :: t) s).fault = some (140, y.2)) := line_done T hf hm
  have HFV : Hid (faV text (140, y.2) = .agg #[.int .i64 140, .int .i64 a0, .int .i64 b0]) := by show _ = _; rw [ha0, hb0]; rfl
  have hm1 : (s.mode == 0) = false := by rw [hm]; rfl
  have hm2 : (s.mode == 2) = true := by rw [hm]; rfl
  rw [hm1]
  rw [hm2] at cr
  clear ha0 hb0 wc wc2 hm hm6
  clear h hv hd hv2 bb hWB r53 r30 r71
  go_enter Tryd.func12, Tryd.ntmps12
  go_wp2_with (first
    | (rw [← HWB.out])
    | (go_at_call 10; refine (FC.out _ _ _).mono ?_; rintro e w4 ⟨rfl, b4⟩; have B4 : Hid (Below W.heap.size W w4) := BB.out.trans (b4.mono BB.out.size); have r4 := (b4.block _ (by omega)).trans R30.out; have c4 := fun j => cell_row r4 j; have f4 := fun j => unfrozen_row r4 j; have hs4 : W.heap.size + 1 < w4.heap.size := (Array.getElem?_eq_some_iff.1 r4).1; clear b4 r4))
  exact bodyPost_ret (v := .agg #[.int .i64 140, .int .i64 a0, .int .i64 b0]) (by simp [results, Tryd.results12, go_sem, c4]) rfl ⟨ans_below (by have := HW.out; omega) (B4.out.mono HW.out) _ _ _, (kp_below B4.out).ans (by omega), .inl ⟨_, HFL.out, congrArg _ HFV.out.symm⟩⟩
set_option maxHeartbeats 8000000 in
theorem line3 (T : Nat → List UInt8) (w W : World) (r : Nat) (text : List UInt8) (s : Rs) (x : Dx) (y : Wd) (t : List Wd) (v e1 e2 : Value) (h : Dr w W r text (dOf s) x) (hv : WA W w.heap.size text (y :: t) v) (hf : s.fault = none) (hm : s.mode = 0) (hy : y.1 = cirW) (ht : t = []) (he : enC text (y :: t) = [e1, e2]) :
    Calls Tryd.prog 12 #[.pointer (some ⟨r, 0, none⟩), .agg #[v, e1, e2], .bool (s.mode == 0)] W (LineIs w W r text (lineF T (y :: t) s)) := by
  obtain ⟨a0, ha0⟩ : ∃ a0 : Int, a0 = ((spotN (text.take y.2)).1 : Int) := ⟨_, rfl⟩
  obtain ⟨b0, hb0⟩ : ∃ b0 : Int, b0 = ((spotN (text.take y.2)).2 : Int) := ⟨_, rfl⟩
  obtain ⟨g, c, rfl, hgM, hgW, wc⟩ := hv.word
  obtain ⟨WB, hWB, bb, hd, hv2, r53, r30, r71⟩ := pre_line (z1 := .slice (some ⟨g, 0, none⟩) (t.length + 1) c) (z2 := e1) (z3 := e2) h hv (str y.1) (.int .i64 a0) (.int .i64 b0)
  obtain ⟨k0, k1, k2⟩ := wc 0 y rfl
  rw [← ha0] at k1
  rw [← hb0] at k2
  have hrB := hd.size
  have hsz : W.heap.size + 1 + 1 < WB.heap.size := (Array.getElem?_eq_some_iff.1 r71).1
  have HW : Hid (w.heap.size ≤ W.heap.size) := h.below.size
  have BB := hid bb
  have HBX := hid h.box
  have DD := hid hd
  have c53 := fun j => cell_row r53 j
  have c71 := fun j => cell_row r71 j
  have R30 := hid r30
  have cr := cell_row hd.box 6
  obtain ⟨g', c', hgc, _, _, wc2⟩ := hv2.word
  simp only [Value.slice.injEq, Option.some.injEq, Addr.mk.injEq, and_true, true_and] at hgc
  obtain ⟨rfl, rfl⟩ := hgc
  rw [List.length_cons]
  have HWB := hid hWB
  have FC := hid (fun W a b => fault_any 140 a b W)
  have hm6 : (rcells (dOf s) x)[6]? = some (.bool (s.mode == 2)) := rfl
  rw [hm6] at cr
  obtain ⟨a1, ha1⟩ : ∃ qq : Int, qq = ((spotN (text.take (y.2 + y.1.length))).1 : Int) := ⟨_, rfl⟩
  obtain ⟨b1, hb1⟩ : ∃ qq : Int, qq = ((spotN (text.take (y.2 + y.1.length))).2 : Int) := ⟨_, rfl⟩
  have he1 : e1 = .int .i64 a1 ∧ e2 = .int .i64 b1 := by
    rw [ht] at he
    simp [enC, spI] at he
    rw [ha1, hb1]
    exact ⟨he.1.symm, he.2.symm⟩
  obtain ⟨rfl, rfl⟩ := he1
  have HFL : Hid ((lineF T (y :: t) s).fault = some (140, y.2 + y.1.length)) := by show _ = _; rw [ht]; exact line_head_none T hf hm hy
  have HFV : Hid (faV text (140, y.2 + y.1.length) = .agg #[.int .i64 140, .int .i64 a1, .int .i64 b1]) := by show _ = _; rw [ha1, hb1]; rfl
  have hm1 : (s.mode == 0) = true := by rw [hm]; rfl
  have hm2 : (s.mode == 2) = false := by rw [hm]; rfl
  have hy1 : (y.1 == [99, 105, 114, 99, 117, 105, 116]) = true := by rw [hy]; rfl
  have hy2 : (y.1 != [99, 105, 114, 99, 117, 105, 116]) = false := by simp [bne, hy1]
  rw [hm1]
  rw [hm2] at cr
  have l1 : (t.length : Int) + 1 < 2 := by rw [ht]; decide
  clear ha0 hb0 ha1 hb1 wc wc2 hm hy hm6 ht he
  clear h hv hd hv2 bb hWB r53 r30 r71
  go_enter Tryd.func12, Tryd.ntmps12
  go_wp2_with (first
    | (rw [← HWB.out])
    | (go_at_call 10; refine (FC.out _ _ _).mono ?_; rintro e w4 ⟨rfl, b4⟩; have B4 : Hid (Below W.heap.size W w4) := BB.out.trans (b4.mono BB.out.size); have r4 := (b4.block _ (by omega)).trans R30.out; have c4 := fun j => cell_row r4 j; have f4 := fun j => unfrozen_row r4 j; have hs4 : W.heap.size + 1 < w4.heap.size := (Array.getElem?_eq_some_iff.1 r4).1; clear b4 r4))
  exact bodyPost_ret (v := .agg #[.int .i64 140, .int .i64 a1, .int .i64 b1]) (by simp [results, Tryd.results12, go_sem, c4]) rfl ⟨ans_below (by have := HW.out; omega) (B4.out.mono HW.out) _ _ _, (kp_below B4.out).ans (by omega), .inl ⟨_, HFL.out, congrArg _ HFV.out.symm⟩⟩
set_option maxHeartbeats 8000000 in
theorem line4 (T : Nat → List UInt8) (w W : World) (r : Nat) (text : List UInt8) (s : Rs) (x : Dx) (y : Wd) (t : List Wd) (v e1 e2 : Value) (h : Dr w W r text (dOf s) x) (hv : WA W w.heap.size text (y :: t) v) (hf : s.fault = none) (hm : s.mode = 0) (hy : y.1 = cirW) (z : Wd) (u : List Wd) (ht : t = z :: u) (hz : z.1.length ≤ 1048576) (hn : nameL z.1 = false) :
    Calls Tryd.prog 12 #[.pointer (some ⟨r, 0, none⟩), .agg #[v, e1, e2], .bool (s.mode == 0)] W (LineIs w W r text (lineF T (y :: t) s)) := by
  obtain ⟨a0, ha0⟩ : ∃ a0 : Int, a0 = ((spotN (text.take y.2)).1 : Int) := ⟨_, rfl⟩
  obtain ⟨b0, hb0⟩ : ∃ b0 : Int, b0 = ((spotN (text.take y.2)).2 : Int) := ⟨_, rfl⟩
  obtain ⟨g, c, rfl, hgM, hgW, wc⟩ := hv.word
  obtain ⟨WB, hWB, bb, hd, hv2, r53, r30, r71⟩ := pre_line (z1 := .slice (some ⟨g, 0, none⟩) (t.length + 1) c) (z2 := e1) (z3 := e2) h hv (str y.1) (.int .i64 a0) (.int .i64 b0)
  obtain ⟨k0, k1, k2⟩ := wc 0 y rfl
  rw [← ha0] at k1
  rw [← hb0] at k2
  have hrB := hd.size
  have hsz : W.heap.size + 1 + 1 < WB.heap.size := (Array.getElem?_eq_some_iff.1 r71).1
  have HW : Hid (w.heap.size ≤ W.heap.size) := h.below.size
  have BB := hid bb
  have HBX := hid h.box
  have DD := hid hd
  have c53 := fun j => cell_row r53 j
  have c71 := fun j => cell_row r71 j
  have R30 := hid r30
  have cr := cell_row hd.box 6
  obtain ⟨g', c', hgc, _, _, wc2⟩ := hv2.word
  simp only [Value.slice.injEq, Option.some.injEq, Addr.mk.injEq, and_true, true_and] at hgc
  obtain ⟨rfl, rfl⟩ := hgc
  rw [List.length_cons]
  have HWB := hid hWB
  have FC := hid (fun W a b => fault_any 140 a b W)
  have hm6 : (rcells (dOf s) x)[6]? = some (.bool (s.mode == 2)) := rfl
  rw [hm6] at cr
  obtain ⟨a1, ha1⟩ : ∃ qq : Int, qq = ((spotN (text.take (z.2))).1 : Int) := ⟨_, rfl⟩
  obtain ⟨b1, hb1⟩ : ∃ qq : Int, qq = ((spotN (text.take (z.2))).2 : Int) := ⟨_, rfl⟩
  obtain ⟨m0, m1, m2⟩ := wc2 1 z (by rw [ht]; rfl)
  rw [← ha1] at m1
  rw [← hb1] at m2
  have HFL : Hid ((lineF T (y :: t) s).fault = some (140, z.2)) := by show _ = _; rw [ht]; exact line_head_bad T hf hm hy hn
  have HFV : Hid (faV text (140, z.2) = .agg #[.int .i64 140, .int .i64 a1, .int .i64 b1]) := by show _ = _; rw [ha1, hb1]; rfl
  have hm1 : (s.mode == 0) = true := by rw [hm]; rfl
  have hm2 : (s.mode == 2) = false := by rw [hm]; rfl
  have hy1 : (y.1 == [99, 105, 114, 99, 117, 105, 116]) = true := by rw [hy]; rfl
  have hy2 : (y.1 != [99, 105, 114, 99, 117, 105, 116]) = false := by simp [bne, hy1]
  rw [hm1]
  rw [hm2] at cr
  have l1 : ¬ (t.length : Int) + 1 < 2 := by rw [ht]; simp; omega
  have l2 : (1 : Int) < (t.length : Int) + 1 := by rw [ht]; simp; omega
  have NM := hid (fun W => nameD_list z.1 W hz)
  rw [hn] at NM
  have hgB : g < WB.heap.size := Nat.lt_of_lt_of_le hgW BB.out.size
  clear ha0 hb0 ha1 hb1 wc wc2 hm hy hm6 ht hn
  have R53 := hid r53
  clear h hv hd hv2 bb hWB r53 r30 r71
  go_enter Tryd.func12, Tryd.ntmps12
  go_wp2_with (first
    | (rw [← HWB.out])
    | (have z3 := B3; clear z3; go_at_call 10; refine (FC.out _ _ _).mono ?_; rintro e w4 ⟨rfl, b4⟩; have B4 : Hid (Below W.heap.size W w4) := B3.out.trans (b4.mono B3.out.size); have r4 := (b4.block _ (by omega)).trans R3.out; have c4 := fun j => cell_row r4 j; have f4 := fun j => unfrozen_row r4 j; have hs4 : W.heap.size + 1 < w4.heap.size := (Array.getElem?_eq_some_iff.1 r4).1; clear b4 r4)
    | (go_at_call 20; refine (NM.out _).mono ?_; rintro e w3 ⟨rfl, b3⟩; have B3 : Hid (Below W.heap.size W w3) := BB.out.trans (b3.mono BB.out.size); have D3 := hid (DD.out.on b3); have e53 := fun j => (cell_row ((b3.block _ (by omega)).trans R53.out) j); have R3 := hid ((b3.block _ (by omega)).trans R30.out); have hs3 : W.heap.size + 1 + 1 < w3.heap.size := Nat.lt_of_lt_of_le hsz b3.size; have kg := b3.block g hgB; have m1' := (World.cell?_of_block kg).trans m1; have m2' := (World.cell?_of_block kg).trans m2; clear b3 kg))
  exact bodyPost_ret (v := .agg #[.int .i64 140, .int .i64 a1, .int .i64 b1]) (by simp [results, Tryd.results12, go_sem, c4]) rfl ⟨ans_below (by have := HW.out; omega) (B4.out.mono HW.out) _ _ _, (kp_below B4.out).ans (by omega), .inl ⟨_, HFL.out, congrArg _ HFV.out.symm⟩⟩
set_option maxHeartbeats 8000000 in
theorem line5 (T : Nat → List UInt8) (w W : World) (r : Nat) (text : List UInt8) (s : Rs) (x : Dx) (y : Wd) (t : List Wd) (v e1 e2 : Value) (h : Dr w W r text (dOf s) x) (hv : WA W w.heap.size text (y :: t) v) (hf : s.fault = none) (hm : s.mode = 0) (hy : y.1 = cirW) (z q : Wd) (u : List Wd) (ht : t = z :: q :: u) (hz : z.1.length ≤ 1048576) (hn : nameL z.1 = true) :
    Calls Tryd.prog 12 #[.pointer (some ⟨r, 0, none⟩), .agg #[v, e1, e2], .bool (s.mode == 0)] W (LineIs w W r text (lineF T (y :: t) s)) := by
  obtain ⟨a0, ha0⟩ : ∃ a0 : Int, a0 = ((spotN (text.take y.2)).1 : Int) := ⟨_, rfl⟩
  obtain ⟨b0, hb0⟩ : ∃ b0 : Int, b0 = ((spotN (text.take y.2)).2 : Int) := ⟨_, rfl⟩
  obtain ⟨g, c, rfl, hgM, hgW, wc⟩ := hv.word
  obtain ⟨WB, hWB, bb, hd, hv2, r53, r30, r71⟩ := pre_line (z1 := .slice (some ⟨g, 0, none⟩) (t.length + 1) c) (z2 := e1) (z3 := e2) h hv (str y.1) (.int .i64 a0) (.int .i64 b0)
  obtain ⟨k0, k1, k2⟩ := wc 0 y rfl
  rw [← ha0] at k1
  rw [← hb0] at k2
  have hrB := hd.size
  have hsz : W.heap.size + 1 + 1 < WB.heap.size := (Array.getElem?_eq_some_iff.1 r71).1
  have HW : Hid (w.heap.size ≤ W.heap.size) := h.below.size
  have BB := hid bb
  have HBX := hid h.box
  have DD := hid hd
  have c53 := fun j => cell_row r53 j
  have c71 := fun j => cell_row r71 j
  have R30 := hid r30
  have cr := cell_row hd.box 6
  obtain ⟨g', c', hgc, _, _, wc2⟩ := hv2.word
  simp only [Value.slice.injEq, Option.some.injEq, Addr.mk.injEq, and_true, true_and] at hgc
  obtain ⟨rfl, rfl⟩ := hgc
  rw [List.length_cons]
  have HWB := hid hWB
  have FC := hid (fun W a b => fault_any 140 a b W)
  have hm6 : (rcells (dOf s) x)[6]? = some (.bool (s.mode == 2)) := rfl
  rw [hm6] at cr
  obtain ⟨a1, ha1⟩ : ∃ qq : Int, qq = ((spotN (text.take (q.2))).1 : Int) := ⟨_, rfl⟩
  obtain ⟨b1, hb1⟩ : ∃ qq : Int, qq = ((spotN (text.take (q.2))).2 : Int) := ⟨_, rfl⟩
  obtain ⟨m0, m1, m2⟩ := wc2 1 z (by rw [ht]; rfl)
  obtain ⟨p0, p1, p2⟩ := wc2 2 q (by rw [ht]; rfl)
  rw [← ha1] at p1
  rw [← hb1] at p2
  have HFL : Hid ((lineF T (y :: t) s).fault = some (140, q.2)) := by show _ = _; rw [ht]; exact line_head_more T hf hm hy hn
  have HFV : Hid (faV text (140, q.2) = .agg #[.int .i64 140, .int .i64 a1, .int .i64 b1]) := by show _ = _; rw [ha1, hb1]; rfl
  have hm1 : (s.mode == 0) = true := by rw [hm]; rfl
  have hm2 : (s.mode == 2) = false := by rw [hm]; rfl
  have hy1 : (y.1 == [99, 105, 114, 99, 117, 105, 116]) = true := by rw [hy]; rfl
  have hy2 : (y.1 != [99, 105, 114, 99, 117, 105, 116]) = false := by simp [bne, hy1]
  rw [hm1]
  rw [hm2] at cr
  have l1 : ¬ (t.length : Int) + 1 < 2 := by rw [ht]; simp; omega
  have l2 : (1 : Int) < (t.length : Int) + 1 := by rw [ht]; simp; omega
  have l3 : (2 : Int) < (t.length : Int) + 1 := by rw [ht]; simp; omega
  have NM := hid (fun W => nameD_list z.1 W hz)
  rw [hn] at NM
  have hgB : g < WB.heap.size := Nat.lt_of_lt_of_le hgW BB.out.size
  clear ha0 hb0 ha1 hb1 wc wc2 hm hy hm6 ht hn m1 m2
  have R53 := hid r53
  clear h hv hd hv2 bb hWB r53 r30 r71
  go_enter Tryd.func12, Tryd.ntmps12
  go_wp2_with (first
    | (rw [← HWB.out])
    | (have z3 := B3; clear z3; go_at_call 10; refine (FC.out _ _ _).mono ?_; rintro e w4 ⟨rfl, b4⟩; have B4 : Hid (Below W.heap.size W w4) := B3.out.trans (b4.mono B3.out.size); have r4 := (b4.block _ (by omega)).trans R3.out; have c4 := fun j => cell_row r4 j; have f4 := fun j => unfrozen_row r4 j; have hs4 : W.heap.size + 1 < w4.heap.size := (Array.getElem?_eq_some_iff.1 r4).1; clear b4 r4)
    | (go_at_call 20; refine (NM.out _).mono ?_; rintro e w3 ⟨rfl, b3⟩; have B3 : Hid (Below W.heap.size W w3) := BB.out.trans (b3.mono BB.out.size); have D3 := hid (DD.out.on b3); have e53 := fun j => (cell_row ((b3.block _ (by omega)).trans R53.out) j); have R3 := hid ((b3.block _ (by omega)).trans R30.out); have hs3 : W.heap.size + 1 + 1 < w3.heap.size := Nat.lt_of_lt_of_le hsz b3.size; have kg := b3.block g hgB; have p1' := (World.cell?_of_block kg).trans p1; have p2' := (World.cell?_of_block kg).trans p2; clear b3 kg))
  exact bodyPost_ret (v := .agg #[.int .i64 140, .int .i64 a1, .int .i64 b1]) (by simp [results, Tryd.results12, go_sem, c4]) rfl ⟨ans_below (by have := HW.out; omega) (B4.out.mono HW.out) _ _ _, (kp_below B4.out).ans (by omega), .inl ⟨_, HFL.out, congrArg _ HFV.out.symm⟩⟩
set_option maxHeartbeats 8000000 in
theorem line6 (T : Nat → List UInt8) (w W : World) (r : Nat) (text : List UInt8) (s : Rs) (x : Dx) (y : Wd) (t : List Wd) (v e1 e2 : Value) (h : Dr w W r text (dOf s) x) (hv : WA W w.heap.size text (y :: t) v) (hf : s.fault = none) (hm : s.mode = 0) (hy : y.1 = cirW) (z : Wd) (ht : t = [z]) (hz : z.1.length ≤ 1048576) (hn : nameL z.1 = true) :
    Calls Tryd.prog 12 #[.pointer (some ⟨r, 0, none⟩), .agg #[v, e1, e2], .bool (s.mode == 0)] W (LineIs w W r text (lineF T (y :: t) s)) := by
  obtain ⟨a0, ha0⟩ : ∃ a0 : Int, a0 = ((spotN (text.take y.2)).1 : Int) := ⟨_, rfl⟩
  obtain ⟨b0, hb0⟩ : ∃ b0 : Int, b0 = ((spotN (text.take y.2)).2 : Int) := ⟨_, rfl⟩
  obtain ⟨g, c, rfl, hgM, hgW, wc⟩ := hv.word
  obtain ⟨WB, hWB, bb, hd, hv2, r53, r30, r71⟩ := pre_line (z1 := .slice (some ⟨g, 0, none⟩) (t.length + 1) c) (z2 := e1) (z3 := e2) h hv (str y.1) (.int .i64 a0) (.int .i64 b0)
  obtain ⟨k0, k1, k2⟩ := wc 0 y rfl
  rw [← ha0] at k1
  rw [← hb0] at k2
  have hrB := hd.size
  have hsz : W.heap.size + 1 + 1 < WB.heap.size := (Array.getElem?_eq_some_iff.1 r71).1
  have HW : Hid (w.heap.size ≤ W.heap.size) := h.below.size
  have BB := hid bb
  have HBX := hid h.box
  have DD := hid hd
  have c53 := fun j => cell_row r53 j
  have c71 := fun j => cell_row r71 j
  have R30 := hid r30
  have cr := cell_row hd.box 6
  obtain ⟨g', c', hgc, _, _, wc2⟩ := hv2.word
  simp only [Value.slice.injEq, Option.some.injEq, Addr.mk.injEq, and_true, true_and] at hgc
  obtain ⟨rfl, rfl⟩ := hgc
  rw [List.length_cons]
  have HWB := hid hWB
  have FC := hid (fun W a b => fault_any 140 a b W)
  have hm6 : (rcells (dOf s) x)[6]? = some (.bool (s.mode == 2)) := rfl
  rw [hm6] at cr
  obtain ⟨m0, m1, m2⟩ := wc2 1 z (by rw [ht]; rfl)
  have HLF : Hid (lineF T (y :: t) s = { s with mode := 1, last := z, left := [], cname := z.1 }) := by show _ = _; rw [ht]; exact line_head_ok T hm hy hn
  have HDO : Hid (dOf (lineF T (y :: t) s) = { dOf s with cname := z.1 } ∧ (lineF T (y :: t) s).fault = none) := by
    show _ ∧ _
    rw [HLF.out]
    exact ⟨by simp [dOf, hm]; rfl, hf⟩
  have hm1 : (s.mode == 0) = true := by rw [hm]; rfl
  have hm2 : (s.mode == 2) = false := by rw [hm]; rfl
  have hy1 : (y.1 == [99, 105, 114, 99, 117, 105, 116]) = true := by rw [hy]; rfl
  have hy2 : (y.1 != [99, 105, 114, 99, 117, 105, 116]) = false := by simp [bne, hy1]
  rw [hm1]
  rw [hm2] at cr
  have l1 : ¬ (t.length : Int) + 1 < 2 := by rw [ht]; simp
  have l2 : (1 : Int) < (t.length : Int) + 1 := by rw [ht]; simp
  have l3 : ¬ (2 : Int) < (t.length : Int) + 1 := by rw [ht]; simp
  have NM := hid (fun W => nameD_list z.1 W hz)
  rw [hn] at NM
  have hgB : g < WB.heap.size := Nat.lt_of_lt_of_le hgW BB.out.size
  clear ha0 hb0 wc wc2 hm hy hm6 ht hn m1 m2 HLF
  have R53 := hid r53
  have hrW := h.size
  clear h hv hd hv2 bb hWB r53 r30 r71
  go_enter Tryd.func12, Tryd.ntmps12
  go_wp2_with (first
    | (rw [← HWB.out])
    | (rw [← HW5.out])
    | (go_at_call 20; refine (NM.out _).mono ?_; rintro e w3 ⟨rfl, b3⟩; have B3 : Hid (Below W.heap.size W w3) := BB.out.trans (b3.mono BB.out.size); have D3 := hid (DD.out.on b3); have e53 := fun j => (cell_row ((b3.block _ (by omega)).trans R53.out) j); have R3 := hid ((b3.block _ (by omega)).trans R30.out); have hs3 : W.heap.size + 1 + 1 < w3.heap.size := Nat.lt_of_lt_of_le hsz b3.size; have kg := b3.block g hgB; have m0' := (World.cell?_of_block kg).trans m0; clear b3 kg; have cr0 := cell_row D3.out.box 0; rw [show (rcells (dOf s) x)[0]? = some (str (dOf s).cname) from rfl] at cr0; have hr3 := D3.out.size; obtain ⟨W5, hW5⟩ : ∃ W5, W5 = w3.setCell ⟨r, 0, none⟩ (str z.1) := ⟨_, rfl⟩; have HW5 := hid hW5; have D5 : Hid (Dr w W5 r text { dOf s with cname := z.1 } x) := (by rw [hW5]; exact D3.out.name z.1); have R5 : Hid (W5.heap[W.heap.size + 1]? = some (.cells #[.int .i64 0, .int .i64 0, .int .i64 0] 30 (0, 0))) := (by rw [hW5]; exact (Below.heap_setCell _ _ _ _ (by show W.heap.size + 1 ≠ r; omega)).trans R3.out); have B5 : Hid (Below w.heap.size W W5) := (by rw [hW5]; exact (B3.out.mono HW.out).setCell (p := ⟨r, 0, none⟩) D3.out.low _); have K5 : Hid (Kp W W5) := (by rw [hW5]; exact (kp_below B3.out).at49 HBX.out); have c5 := fun j => cell_row R5.out j; have f5 := fun j => unfrozen_row R5.out j; have hs5 : W.heap.size + 1 < W5.heap.size := (Array.getElem?_eq_some_iff.1 R5.out).1; have fr := unfrozen_row D3.out.box 0; clear hW5))
  exact bodyPost_ret (v := .agg #[.int .i64 0, .int .i64 0, .int .i64 0]) (by simp [results, Tryd.results12, go_sem, c5]) rfl ⟨ans_below (by have := HW.out; omega) B5.out _ _ _, K5.out.ans (by omega), .inr ⟨HDO.out.2, rfl, _, by rw [HDO.out.1]; exact D5.out.ans R5.out (by have := HW.out; omega) _ _ _⟩⟩
set_option maxHeartbeats 8000000 in
theorem line7 (T : Nat → List UInt8) (w W : World) (r : Nat) (text : List UInt8) (s : Rs) (x : Dx) (y : Wd) (t : List Wd) (v e1 e2 : Value) (h : Dr w W r text (dOf s) x) (hv : WA W w.heap.size text (y :: t) v) (hf : s.fault = none) (hm : s.mode = 1) (hy : y.1 = endW) (ht : t = []) :
    Calls Tryd.prog 12 #[.pointer (some ⟨r, 0, none⟩), .agg #[v, e1, e2], .bool (s.mode == 0)] W (LineIs w W r text (lineF T (y :: t) s)) := by
  obtain ⟨a0, ha0⟩ : ∃ a0 : Int, a0 = ((spotN (text.take y.2)).1 : Int) := ⟨_, rfl⟩
  obtain ⟨b0, hb0⟩ : ∃ b0 : Int, b0 = ((spotN (text.take y.2)).2 : Int) := ⟨_, rfl⟩
  obtain ⟨g, c, rfl, hgM, hgW, wc⟩ := hv.word
  obtain ⟨WB, hWB, bb, hd, hv2, r53, r30, r71⟩ := pre_line (z1 := .slice (some ⟨g, 0, none⟩) (t.length + 1) c) (z2 := e1) (z3 := e2) h hv (str y.1) (.int .i64 a0) (.int .i64 b0)
  obtain ⟨k0, k1, k2⟩ := wc 0 y rfl
  rw [← ha0] at k1
  rw [← hb0] at k2
  have hrB := hd.size
  have hsz : W.heap.size + 1 + 1 < WB.heap.size := (Array.getElem?_eq_some_iff.1 r71).1
  have HW : Hid (w.heap.size ≤ W.heap.size) := h.below.size
  have BB := hid bb
  have HBX := hid h.box
  have DD := hid hd
  have c53 := fun j => cell_row r53 j
  have c71 := fun j => cell_row r71 j
  have R30 := hid r30
  have cr := cell_row hd.box 6
  obtain ⟨g', c', hgc, _, _, wc2⟩ := hv2.word
  simp only [Value.slice.injEq, Option.some.injEq, Addr.mk.injEq, and_true, true_and] at hgc
  obtain ⟨rfl, rfl⟩ := hgc
  rw [List.length_cons]
  have HWB := hid hWB
  have FC := hid (fun W a b => fault_any 140 a b W)
  have hm6 : (rcells (dOf s) x)[6]? = some (.bool (s.mode == 2)) := rfl
  rw [hm6] at cr
  have HLF : Hid (lineF T (y :: t) s = { s with mode := 2, last := y, left := [] }) := by show _ = _; rw [ht]; exact line_end_ok T hm hy
  have HDO : Hid (dOf (lineF T (y :: t) s) = { dOf s with done := true } ∧ (lineF T (y :: t) s).fault = none) := by
    show _ ∧ _
    rw [HLF.out]
    exact ⟨by simp [dOf]; rfl, hf⟩
  have hm1 : (s.mode == 0) = false := by rw [hm]; rfl
  have hm2 : (s.mode == 2) = false := by rw [hm]; rfl
  have hy1 : (y.1 == [101, 110, 100]) = true := by rw [hy]; rfl
  rw [hm1]
  rw [hm2] at cr
  have l1 : ¬ (1 : Int) < (t.length : Int) + 1 := by rw [ht]; simp
  clear ha0 hb0 wc wc2 hm hy hm6 ht HLF
  have hrW := h.size
  clear h hv hd hv2 bb hWB r53 r30 r71
  obtain ⟨W5, hW5⟩ : ∃ W5, W5 = WB.setCell ⟨r, 6, none⟩ (.bool true) := ⟨_, rfl⟩
  have HW5 := hid hW5
  have D5 : Hid (Dr w W5 r text { dOf s with done := true } x) := (by rw [hW5]; exact DD.out.fin)
  have R5 : Hid (W5.heap[W.heap.size + 1]? = some (.cells #[.int .i64 0, .int .i64 0, .int .i64 0] 30 (0, 0))) := (by rw [hW5]; exact (Below.heap_setCell _ _ _ _ (by show W.heap.size + 1 ≠ r; omega)).trans R30.out)
  have B5 : Hid (Below w.heap.size W W5) := (by rw [hW5]; exact (BB.out.mono HW.out).setCell (p := ⟨r, 6, none⟩) DD.out.low _)
  have K5 : Hid (Kp W W5) := (by rw [hW5]; exact (kp_below BB.out).at49 HBX.out)
  have c5 := fun j => cell_row R5.out j
  have f5 := fun j => unfrozen_row R5.out j
  have hs5 : W.heap.size + 1 < W5.heap.size := (Array.getElem?_eq_some_iff.1 R5.out).1
  have fr := unfrozen_row DD.out.box 6
  clear hW5
  go_enter Tryd.func12, Tryd.ntmps12
  go_wp2_with (first
    | (rw [← HWB.out])
    | (rw [← HW5.out]))
  exact bodyPost_ret (v := .agg #[.int .i64 0, .int .i64 0, .int .i64 0]) (by simp [results, Tryd.results12, go_sem, c5]) rfl ⟨ans_below (by have := HW.out; omega) B5.out _ _ _, K5.out.ans (by omega), .inr ⟨HDO.out.2, rfl, _, by rw [HDO.out.1]; exact D5.out.ans R5.out (by have := HW.out; omega) _ _ _⟩⟩
set_option maxHeartbeats 8000000 in
theorem line8 (T : Nat → List UInt8) (w W : World) (r : Nat) (text : List UInt8) (s : Rs) (x : Dx) (y : Wd) (t : List Wd) (v e1 e2 : Value) (h : Dr w W r text (dOf s) x) (hv : WA W w.heap.size text (y :: t) v) (hf : s.fault = none) (hm : s.mode = 1) (hy : y.1 = endW) (z : Wd) (u : List Wd) (ht : t = z :: u) :
    Calls Tryd.prog 12 #[.pointer (some ⟨r, 0, none⟩), .agg #[v, e1, e2], .bool (s.mode == 0)] W (LineIs w W r text (lineF T (y :: t) s)) := by
  obtain ⟨a0, ha0⟩ : ∃ a0 : Int, a0 = ((spotN (text.take y.2)).1 : Int) := ⟨_, rfl⟩
  obtain ⟨b0, hb0⟩ : ∃ b0 : Int, b0 = ((spotN (text.take y.2)).2 : Int) := ⟨_, rfl⟩
  obtain ⟨g, c, rfl, hgM, hgW, wc⟩ := hv.word
  obtain ⟨WB, hWB, bb, hd, hv2, r53, r30, r71⟩ := pre_line (z1 := .slice (some ⟨g, 0, none⟩) (t.length + 1) c) (z2 := e1) (z3 := e2) h hv (str y.1) (.int .i64 a0) (.int .i64 b0)
  obtain ⟨k0, k1, k2⟩ := wc 0 y rfl
  rw [← ha0] at k1
  rw [← hb0] at k2
  have hrB := hd.size
  have hsz : W.heap.size + 1 + 1 < WB.heap.size := (Array.getElem?_eq_some_iff.1 r71).1
  have HW : Hid (w.heap.size ≤ W.heap.size) := h.below.size
  have BB := hid bb
  have HBX := hid h.box
  have DD := hid hd
  have c53 := fun j => cell_row r53 j
  have c71 := fun j => cell_row r71 j
  have R30 := hid r30
  have cr := cell_row hd.box 6
  obtain ⟨g', c', hgc, _, _, wc2⟩ := hv2.word
  simp only [Value.slice.injEq, Option.some.injEq, Addr.mk.injEq, and_true, true_and] at hgc
  obtain ⟨rfl, rfl⟩ := hgc
  rw [List.length_cons]
  have HWB := hid hWB
  have FC := hid (fun W a b => fault_any 140 a b W)
  have hm6 : (rcells (dOf s) x)[6]? = some (.bool (s.mode == 2)) := rfl
  rw [hm6] at cr
  obtain ⟨a1, ha1⟩ : ∃ qq : Int, qq = ((spotN (text.take (z.2))).1 : Int) := ⟨_, rfl⟩
  obtain ⟨b1, hb1⟩ : ∃ qq : Int, qq = ((spotN (text.take (z.2))).2 : Int) := ⟨_, rfl⟩
  obtain ⟨m0, m1, m2⟩ := wc2 1 z (by rw [ht]; rfl)
  rw [← ha1] at m1
  rw [← hb1] at m2
  have HFL : Hid ((lineF T (y :: t) s).fault = some (140, z.2)) := by show _ = _; rw [ht]; exact line_end_more T hf hm hy
  have HFV : Hid (faV text (140, z.2) = .agg #[.int .i64 140, .int .i64 a1, .int .i64 b1]) := by show _ = _; rw [ha1, hb1]; rfl
  have hm1 : (s.mode == 0) = false := by rw [hm]; rfl
  have hm2 : (s.mode == 2) = false := by rw [hm]; rfl
  have hy1 : (y.1 == [101, 110, 100]) = true := by rw [hy]; rfl
  rw [hm1]
  rw [hm2] at cr
  have l1 : (1 : Int) < (t.length : Int) + 1 := by rw [ht]; simp; omega
  have hgB : g < WB.heap.size := Nat.lt_of_lt_of_le hgW BB.out.size
  clear ha0 hb0 ha1 hb1 wc wc2 hm hy hm6 ht
  clear h hv hd hv2 bb hWB r53 r30 r71
  go_enter Tryd.func12, Tryd.ntmps12
  go_wp2_with (first
    | (rw [← HWB.out])
    | (go_at_call 10; refine (FC.out _ _ _).mono ?_; rintro e w4 ⟨rfl, b4⟩; have B4 : Hid (Below W.heap.size W w4) := BB.out.trans (b4.mono BB.out.size); have r4 := (b4.block _ (by omega)).trans R30.out; have c4 := fun j => cell_row r4 j; have f4 := fun j => unfrozen_row r4 j; have hs4 : W.heap.size + 1 < w4.heap.size := (Array.getElem?_eq_some_iff.1 r4).1; clear b4 r4))
  exact bodyPost_ret (v := .agg #[.int .i64 140, .int .i64 a1, .int .i64 b1]) (by simp [results, Tryd.results12, go_sem, c4]) rfl ⟨ans_below (by have := HW.out; omega) (B4.out.mono HW.out) _ _ _, (kp_below B4.out).ans (by omega), .inl ⟨_, HFL.out, congrArg _ HFV.out.symm⟩⟩
set_option maxHeartbeats 8000000 in
theorem line9 (T : Nat → List UInt8) (w W : World) (r : Nat) (text : List UInt8) (s : Rs) (x : Dx) (y : Wd) (t : List Wd) (v e1 e2 : Value) (h : Dr w W r text (dOf s) x) (hv : WA W w.heap.size text (y :: t) v) (hm : s.mode = 1) (hy : y.1 ≠ endW) (ITEM : ∀ W2, Dr w W2 r text (dOf s) x → WA W2 w.heap.size text (y :: t) v → Calls Tryd.prog 21 #[.pointer (some ⟨r, 0, none⟩), .agg #[v, e1, e2]] W2 (LineIs w W2 r text (lineF T (y :: t) s))) :
    Calls Tryd.prog 12 #[.pointer (some ⟨r, 0, none⟩), .agg #[v, e1, e2], .bool (s.mode == 0)] W (LineIs w W r text (lineF T (y :: t) s)) := by
  obtain ⟨a0, ha0⟩ : ∃ a0 : Int, a0 = ((spotN (text.take y.2)).1 : Int) := ⟨_, rfl⟩
  obtain ⟨b0, hb0⟩ : ∃ b0 : Int, b0 = ((spotN (text.take y.2)).2 : Int) := ⟨_, rfl⟩
  obtain ⟨g, c, rfl, hgM, hgW, wc⟩ := hv.word
  obtain ⟨WB, hWB, bb, hd, hv2, r53, r30, r71⟩ := pre_line (z1 := .slice (some ⟨g, 0, none⟩) (t.length + 1) c) (z2 := e1) (z3 := e2) h hv (str y.1) (.int .i64 a0) (.int .i64 b0)
  obtain ⟨k0, k1, k2⟩ := wc 0 y rfl
  rw [← ha0] at k1
  rw [← hb0] at k2
  have hrB := hd.size
  have hsz : W.heap.size + 1 + 1 < WB.heap.size := (Array.getElem?_eq_some_iff.1 r71).1
  have HW : Hid (w.heap.size ≤ W.heap.size) := h.below.size
  have BB := hid bb
  have HBX := hid h.box
  have DD := hid hd
  have c53 := fun j => cell_row r53 j
  have c71 := fun j => cell_row r71 j
  have R30 := hid r30
  have cr := cell_row hd.box 6
  obtain ⟨g', c', hgc, _, _, wc2⟩ := hv2.word
  simp only [Value.slice.injEq, Option.some.injEq, Addr.mk.injEq, and_true, true_and] at hgc
  obtain ⟨rfl, rfl⟩ := hgc
  rw [List.length_cons]
  have HWB := hid hWB
  have FC := hid (fun W a b => fault_any 140 a b W)
  have hm6 : (rcells (dOf s) x)[6]? = some (.bool (s.mode == 2)) := rfl
  rw [hm6] at cr
  have IT := hid (ITEM WB hd hv2)
  rw [List.length_cons] at IT
  have hm1 : (s.mode == 0) = false := by rw [hm]; rfl
  have hm2 : (s.mode == 2) = false := by rw [hm]; rfl
  have hy1 : (y.1 == [101, 110, 100]) = false := by simpa [endW] using hy
  rw [hm1]
  rw [hm2] at cr
  clear ha0 hb0 wc wc2 hm hy hm6 ITEM
  clear h hv hd hv2 bb hWB r53 r30 r71
  go_enter Tryd.func12, Tryd.ntmps12
  go_wp2_with (first
    | (rw [← HWB.out])
    | (go_at_call 21; refine IT.out.mono ?_; rintro e w3 ⟨b3, k3, h3⟩; have B3 : Hid (Below w.heap.size W w3) := (BB.out.mono HW.out).trans b3; have K3 : Hid (Kp W w3) := (kp_below BB.out).trans k3; have R3 := hid ((k3 _ _ _ _ R30.out (.inr (.inl rfl))).trans R30.out); have c3 := fun j => cell_row R3.out j; have f3 := fun j => unfrozen_row R3.out j; have hs3 : W.heap.size + 1 < w3.heap.size := (Array.getElem?_eq_some_iff.1 R3.out).1; have HE := hid (line_res h3); clear b3 k3 h3; obtain ⟨A, B, C, rfl, HX⟩ := HE.out; clear HE))
  exact bodyPost_ret (v := .agg #[.int .i64 A, .int .i64 B, .int .i64 C]) (by simp [results, Tryd.results12, go_sem, c3]) rfl ⟨ans_below (by have := HW.out; omega) B3.out _ _ _, K3.out.ans (by omega), HX.out.imp (fun ⟨p, h1, h2⟩ => ⟨p, h1, congrArg _ h2.symm⟩) (fun ⟨h1, h2, x', h4⟩ => ⟨h1, congrArg _ h2, x', h4.ans R3.out (by have := HW.out; omega) _ _ _⟩)⟩
/-- the document's own reading of a line, with its reading of an item. -/
theorem line_doc (T : Nat → List UInt8) (w W : World) (r : Nat) (text : List UInt8) (s : Rs) (x : Dx) (y : Wd) (t : List Wd) (v e1 e2 : Value) (h : Dr w W r text (dOf s) x) (hv : WA W w.heap.size text (y :: t) v) (hf : s.fault = none) (he : enC text (y :: t) = [e1, e2]) (hl : ∀ z ∈ t, z.1.length ≤ 1048576) (hm : s.mode ≤ 2)
    (ITEM : s.mode = 1 → y.1 ≠ endW → ∀ W2, Dr w W2 r text (dOf s) x → WA W2 w.heap.size text (y :: t) v → Calls Tryd.prog 21 #[.pointer (some ⟨r, 0, none⟩), .agg #[v, e1, e2]] W2 (LineIs w W2 r text (lineF T (y :: t) s))) :
    Calls Tryd.prog 12 #[.pointer (some ⟨r, 0, none⟩), .agg #[v, e1, e2], .bool (s.mode == 0)] W (LineIs w W r text (lineF T (y :: t) s)) := by
  by_cases h2 : s.mode = 2
  · exact line2 T w W r text s x y t v e1 e2 h hv hf h2
  by_cases h0 : s.mode = 0
  · by_cases hy : y.1 = cirW
    · match t, hv, he, hl with
      | [], hv, he, _ => exact line3 T w W r text s x y [] v e1 e2 h hv hf h0 hy rfl he
      | z :: u, hv, _, hl =>
        have hz := hl z (by simp)
        cases hn : nameL z.1 with
        | false => exact line4 T w W r text s x y (z :: u) v e1 e2 h hv hf h0 hy z u rfl hz hn
        | true =>
          match u, hv with
          | [], hv => exact line6 T w W r text s x y [z] v e1 e2 h hv hf h0 hy z rfl hz hn
          | q :: u, hv => exact line5 T w W r text s x y (z :: q :: u) v e1 e2 h hv hf h0 hy z q u rfl hz hn
    · exact line1 T w W r text s x y t v e1 e2 h hv hf h0 hy
  have h1 : s.mode = 1 := by omega
  by_cases hy : y.1 = endW
  · match t, hv with
    | [], hv => exact line7 T w W r text s x y [] v e1 e2 h hv hf h1 hy rfl
    | z :: u, hv => exact line8 T w W r text s x y (z :: u) v e1 e2 h hv hf h1 hy z u rfl
  · exact line9 T w W r text s x y t v e1 e2 h hv h1 hy (ITEM h1 hy)
end Go.Proofs.YtfmmmhcpdinhgabDoor
