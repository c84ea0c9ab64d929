import Derived.Test.YtfmmmhcpdinhgabGreatDoorZ19
/-
  The landed lineOf: the words of a line.
-/
namespace Go.Proofs.YtfmmmhcpdinhgabGreatDoor
open Go.RowKit Go.Deep PureNet
set_option maxRecDepth 100000

theorem info9w : (Tryz.prog.info? 9).map (fun i => (i.zero, i.size, i.bytes)) = some (some (.string ⟨#[]⟩), 1, 16) := by kernel_rfl

/-- a text's bytes. -/
abbrev bl (s : ByteArray) : List UInt8 := s.data.toList
/-- the kinds' words. -/
def kw (k : Int) : List UInt8 := if k = 2 then [103, 97, 116, 101] else if k = 3 then [108, 97, 116, 99, 104] else if k = 4 then [109, 117, 120] else [105, 110, 112, 117, 116]
/-- the table's words of the kinds. -/
structure KwAt (W : World) : Prop where
  word : ∀ k : Nat, 1 ≤ k → k ≤ 4 → W.cell? ⟨1, k * 3, none⟩ = some (str (kw k))
theorem KwAt.on {w W : World} (h : KwAt w) (h0 : 1 < w.heap.size) (hb : Below w.heap.size w W) : KwAt W := ⟨fun k h1 h2 => (hb.cell (p := ⟨1, k * 3, none⟩) h0).trans (h.word k h1 h2)⟩
def frontW (T : Nat → ByteArray) (g : Ga) : List (List UInt8) := [kw g.kind, bl g.name] ++ (if g.kind = 2 then [bl (T g.op.toNat)] else if g.kind = 3 then [if g.op = 1 then [49] else [48]] else [])
def usedL (g : Ga) : List Int := if g.kind = 2 then [g.a, g.b] else if g.kind = 3 then [g.a] else if g.kind = 4 then [g.a, g.b, g.c] else []
def lineW (T : Nat → ByteArray) (c : Net) (g : Ga) : List (List UInt8) := frontW T g ++ (usedL g).map (fun k => bl (nmAt c k))
/-- words as cells. -/
def wc (l : List (List UInt8)) : List Value := l.map str
theorem wc_length (l : List (List UInt8)) : (wc l).length = l.length := by simp [wc]

theorem words_line (T : Nat → ByteArray) (c : Net) (g : Ga) : sepT (lineW T c g) = bl (wordsT T c g) := by
  unfold lineW frontW usedL wordsT
  by_cases h2 : g.kind = 2
  · simp [h2, sepT, kw, bl]
  · by_cases h3 : g.kind = 3
    · by_cases h1 : g.op = 1
      · simp [h3, h1, sepT, kw, bl]
      · simp [h3, h1, sepT, kw, bl]
    · by_cases h4 : g.kind = 4
      · simp [h4, sepT, kw, bl]
      · simp [h2, h3, h4, sepT, kw, bl]
/-- a row of words that a call owns. -/
theorem own_words {W : World} {B n : Nat} {v : Value} {ws : List (List UInt8)} (h : W.ownsRow B 9 1 v n (wc ws)) (h0 : ws ≠ []) : ∃ g cap, v = .slice (some ⟨g, 0, none⟩) ws.length cap ∧ B ≤ g ∧ WordsAt W g ws := by
  have hl : ws.length = n := by have := h.1; rw [wc_length] at this; omega
  rcases h.2 with ⟨_, hn⟩ | ⟨g, cap, cur, hv, hb, hr, hnc, hcm, hcs, htk⟩
  · exact absurd (List.eq_nil_of_length_eq_zero (by omega)) h0
  · refine ⟨g, cap, by rw [hl]; exact hv, hb, ⟨cur, (0, 0), hr, fun j x hx => ?_⟩⟩
    have h1 : (cur.toList.take (n * 1))[j]? = some (str x) := by rw [htk]; simp [wc, hx]
    rw [List.getElem?_take] at h1
    split at h1
    · simpa using h1
    · cases h1

set_option maxHeartbeats 4000000 in
theorem line_1 (T : Nat → ByteArray) (c : Net) (sg so : Option Addr) (cg co : Nat) (nm : ByteArray) (op ga gb gc : Int) (w : World) (hc : CirAt w c sg so) (hK : KindsAt w) (hW : KwAt w) (ht : OpsAt w 2 T) :
    Calls Tryz.prog 25 #[cirV c sg cg so co, .agg (#[Value.int .i64 1, Value.string nm, Value.int .i64 op, Value.int .i64 ga, Value.int .i64 gb, Value.int .i64 gc] : Array Value)] w fun e w' => ∃ b cap, e = .returned (.slice (some ⟨b, 0, none⟩) (lineW T c ⟨1, nm, op, ga, gb, gc⟩).length cap) ∧ w.heap.size ≤ b ∧ WordsAt w' b (lineW T c ⟨1, nm, op, ga, gb, gc⟩) ∧ Below w.heap.size w w' := by
  obtain ⟨x, hx⟩ : ∃ x, x = (w.alloc (Obj.cells (#[Value.string c.name, Value.slice sg c.gates.length cg, Value.slice so c.outs.length co] : Array Value) 25)).alloc (Obj.cells (#[Value.int .i64 1, Value.string nm, Value.int .i64 op, Value.int .i64 ga, Value.int .i64 gb, Value.int .i64 gc] : Array Value) 42) := ⟨_, rfl⟩
  have s1 : (w.alloc (Obj.cells (#[Value.string c.name, Value.slice sg c.gates.length cg, Value.slice so c.outs.length co] : Array Value) 25)).heap.size = w.heap.size + 1 := by simp
  have sx : x.heap.size = w.heap.size + 2 := by rw [hx]; simp
  have R1 : x.heap[w.heap.size]? = some (.cells (#[Value.string c.name, Value.slice sg c.gates.length cg, Value.slice so c.outs.length co] : Array Value) 25 (0, 0)) := by rw [hx, Below.heap_alloc _ _ _ (by omega)]; exact heap_alloc_new w _
  have R2 : x.heap[w.heap.size + 1]? = some (.cells (#[Value.int .i64 1, Value.string nm, Value.int .i64 op, Value.int .i64 ga, Value.int .i64 gb, Value.int .i64 gc] : Array Value) 42 (0, 0)) := by rw [hx, ← s1]; exact heap_alloc_new _ _
  have BX : Hid (Below w.heap.size w x) := by rw [hx]; exact ((Below.refl _ _).alloc (Nat.le_refl _) _).alloc (by omega) _
  have hp := hK.pos
  have KX : Hid (CirAt x c sg so ∧ KindsAt x ∧ KwAt x ∧ OpsAt x 2 T) := ⟨hc.below BX.out, hK.on BX.out, hW.on hp BX.out, ht.on BX.out⟩
  have KS : Hid (∀ W, Below x.heap.size x W → W.cell? ⟨w.heap.size + 1, 0, none⟩ = some (.int .i64 1) ∧ W.cell? ⟨w.heap.size + 1, 1, none⟩ = some (.string nm) ∧ W.cell? ⟨1, 3, none⟩ = some (str (kw 1))) := fun W hW' => by
    have h2 := (hW'.block _ (Array.getElem?_eq_some_iff.1 R2).1).trans R2
    exact ⟨cell_row h2 0, cell_row h2 1, (KX.out.2.2.1.on (by omega) hW').word 1 (by decide) (by decide)⟩
  have RS : Hid (∀ W, Below x.heap.size x W → W.heap[w.heap.size]? = some (.cells (#[Value.string c.name, Value.slice sg c.gates.length cg, Value.slice so c.outs.length co] : Array Value) 25 (0, 0)) ∧ W.heap[w.heap.size + 1]? = some (.cells (#[Value.int .i64 1, Value.string nm, Value.int .i64 op, Value.int .i64 ga, Value.int .i64 gb, Value.int .i64 gc] : Array Value) 42 (0, 0))) := fun W hW' => ⟨(hW'.block _ (by omega)).trans R1, (hW'.block _ (by omega)).trans R2⟩
  have HU : Hid (∀ W, KindsAt W → Calls Tryz.prog 44 #[.agg #[.int .i64 1, .string nm, .int .i64 op, .int .i64 ga, .int .i64 gb, .int .i64 gc]] W fun e w' => ∃ b, e = .returned (.slice (some ⟨b, 0, none⟩) 0 3) ∧ W.heap.size ≤ b ∧ w'.heap[b]? = some (.cells #[.int .i64 ga, .int .i64 gb, .int .i64 gc] 3 (0, 0)) ∧ Below W.heap.size W w') := fun W hKW => used_any 1 ⟨1, nm, op, ga, gb, gc⟩ W hKW rfl (by decide) (by decide)
  have HX := hid hx
  have SX := hid sx
  clear hx hK hc hW ht R1 R2 s1 sx
  go_enter Tryz.func25, Tryz.ntmps25
  go_wp2_with (rw [← HX.out])
  refine wp_region_noPanic ?_
  refine wp_region_held_drew (S := fun W => W.cell? ⟨w.heap.size + 1, 0, none⟩ = some (.int .i64 1) ∧ W.cell? ⟨w.heap.size + 1, 1, none⟩ = some (.string nm) ∧ W.cell? ⟨1, 3, none⟩ = some (str (kw 1))) (by kernel_rfl) (KS.out _ (by first | exact (Below.refl _ _).drew | exact ((Below.refl _ _).alloc (Nat.le_refl _) _).drew)) (fun hHeld => ?_)
  refine wpAnyH_take (i := 0) (v := ?_) (by simp only [List.getElem?_toArray, List.getElem?_cons_zero]; rfl) (by kernel_rfl) (by kernel_rfl) (by kernel_rfl) (fun _ _ _ h => h) (Or.inl ⟨by rfl, ?_⟩) (by assumption) ?_
  rotate_left 1
  · intro w hSw; (try dsimp only at hSw); go_simp; (try with_reducible rfl)
  try simp only [Act.put, List.setIfInBounds_toArray, List.set_cons_zero, List.set_cons_succ]
  refine wpAnyH_take (i := 1) (v := ?_) (by simp only [List.getElem?_toArray, List.getElem?_cons_succ, List.getElem?_cons_zero]; rfl) (by kernel_rfl) (by kernel_rfl) (by kernel_rfl) (fun _ _ _ h => h) (Or.inl ⟨by rfl, ?_⟩) (by assumption) ?_
  rotate_left 1
  · intro w hSw; (try dsimp only at hSw); go_simp; (try with_reducible rfl)
  try simp only [Act.put, List.setIfInBounds_toArray, List.set_cons_zero, List.set_cons_succ]
  refine wpAnyH_take (i := 2) (v := ?_) (by simp only [List.getElem?_toArray, List.getElem?_cons_succ, List.getElem?_cons_zero]; rfl) (by kernel_rfl) (by kernel_rfl) (by kernel_rfl) (fun _ _ _ h => h) (Or.inl ⟨by rfl, ?_⟩) (by assumption) ?_
  rotate_left 1
  · intro w hSw; (try dsimp only at hSw); go_simp; (try with_reducible rfl)
  try simp only [Act.put, List.setIfInBounds_toArray, List.set_cons_zero, List.set_cons_succ]
  refine wpAnyH_take (i := 3) (v := ?_) (by simp only [List.getElem?_toArray, List.getElem?_cons_succ, List.getElem?_cons_zero]; rfl) (by kernel_rfl) (by kernel_rfl) (by kernel_rfl) (fun _ _ _ h => h) (Or.inl ⟨by rfl, ?_⟩) (by assumption) ?_
  rotate_left 1
  · intro w hSw; (try dsimp only at hSw); go_simp; (try with_reducible rfl)
  try simp only [Act.put, List.setIfInBounds_toArray, List.set_cons_zero, List.set_cons_succ]
  refine wpAnyH_take (i := 4) (v := ?_) (by simp only [List.getElem?_toArray, List.getElem?_cons_succ, List.getElem?_cons_zero]; rfl) (by kernel_rfl) (by kernel_rfl) (by kernel_rfl) (fun _ _ _ h => h) (Or.inl ⟨by rfl, ?_⟩) (by assumption) ?_
  rotate_left 1
  · intro w hSw; (try dsimp only at hSw); go_simp; (try with_reducible rfl)
  try simp only [Act.put, List.setIfInBounds_toArray, List.set_cons_zero, List.set_cons_succ]
  refine wpAnyH_take (i := 5) (v := ?_) (by simp only [List.getElem?_toArray, List.getElem?_cons_succ, List.getElem?_cons_zero]; rfl) (by kernel_rfl) (by kernel_rfl) (by kernel_rfl) (fun _ _ _ h => h) (Or.inl ⟨by rfl, ?_⟩) (by assumption) ?_
  rotate_left 1
  · intro w hSw; (try dsimp only at hSw); go_simp; (try with_reducible rfl)
  try simp only [Act.put, List.setIfInBounds_toArray, List.set_cons_zero, List.set_cons_succ]
  refine wpAnyH_take (i := 6) (v := ?_) (by simp only [List.getElem?_toArray, List.getElem?_cons_succ, List.getElem?_cons_zero]; rfl) (by kernel_rfl) (by kernel_rfl) (by kernel_rfl) (fun _ _ _ h => h) (Or.inl ⟨by rfl, ?_⟩) (by assumption) ?_
  rotate_left 1
  · intro w hSw; (try dsimp only at hSw); go_simp; (try with_reducible rfl)
  try simp only [Act.put, List.setIfInBounds_toArray, List.set_cons_zero, List.set_cons_succ]
  refine wpAnyH_ready (rs := [7]) (by kernel_rfl) (by simp) ?_
  refine AllReadyH.cons (by simp only [List.getElem?_toArray, List.getElem?_cons_succ, List.getElem?_cons_zero]; rfl) (fun K hK => ?_) AllReadyH.nil
  go_simp
  clear hHeld
  refine hK.out _ _ (KS.out _ (by first | exact (Below.refl _ _).drew | exact ((Below.refl _ _).alloc (Nat.le_refl _) _).drew)) (fun hHeld => ?_)
  clear hK K
  try simp only [Act.put, List.setIfInBounds_toArray, List.set_cons_zero, List.set_cons_succ]
  refine wpAnyH_take (i := 8) (v := ?_) (by simp only [List.getElem?_toArray, List.getElem?_cons_succ, List.getElem?_cons_zero]; rfl) (by kernel_rfl) (by kernel_rfl) (by kernel_rfl) (fun _ _ _ h => h) (Or.inl ⟨by rfl, ?_⟩) (by assumption) ?_
  rotate_left 1
  · intro w hSw; (try dsimp only at hSw); go_simp; (try with_reducible rfl)
  try simp only [Act.put, List.setIfInBounds_toArray, List.set_cons_zero, List.set_cons_succ]
  refine wpAnyH_done (by kernel_rfl) ?_ _
  refine NoPanic.normal ?_
  obtain ⟨y, hy⟩ : ∃ y, y = (x.alloc (.cells #[str (kw 1), .string nm] 9)).drew := ⟨_, rfl⟩
  first | rw [← hy] | (trace_state; fail)
  have MY : Hid (Mk x y 9 1 (.slice (some ⟨x.heap.size, 0, none⟩) 2 2) 2 (wc [kw 1, bl nm])) := by
    refine ⟨⟨rfl, .inr ⟨x.heap.size, 2, #[str (kw 1), .string nm], rfl, Nat.le_refl _, ?_, by omega, by unfold maxLen; omega, rfl, rfl⟩⟩, ?_⟩
    · rw [hy]; exact heap_alloc_new x _
    · rw [hy]; exact ((Below.refl _ _).alloc (Nat.le_refl _) _).drew
  clear hy
  clear hHeld KS
  have q1 := fun j => cell_row (RS.out y MY.out.below).1 j; have q2 := fun j => cell_row (RS.out y MY.out.below).2 j; have l1 := (Array.getElem?_eq_some_iff.1 (RS.out y MY.out.below).1).1; have l2 := (Array.getElem?_eq_some_iff.1 (RS.out y MY.out.below).2).1
  have sy := MY.out.below.size
  have HUZ := hid (HU.out y (KX.out.2.1.on MY.out.below))
  have MZ := hid MY.out
  clear MY
  go_wp2_with (first | (go_at_call 44; refine HUZ.out.mono ?_; rintro e u ⟨ub, rfl, hub, hur, hbu⟩))
  obtain ⟨ul, hul⟩ : ∃ ul : List (List UInt8), ul = [] := ⟨_, rfl⟩
  have UL := hid hul
  clear hul
  have MU : Hid (Mk x u 9 1 (.slice (some ⟨x.heap.size, 0, none⟩) 2 2) (2 + 0) (wc ([kw 1, bl nm] ++ ul.take 0)) ∧ u.heap[ub]? = some (.cells #[.int .i64 ga, .int .i64 gb, .int .i64 gc] 3 (0, 0))) := by
    refine ⟨?_, hur⟩
    have h := MZ.out.on hbu
    simpa [wc] using h
  clear hub hur hbu q1 q2 l1 l2 HUZ
  go_wp2
  go_loopw [5, 38] (fun ov iv W => ∃ i : Nat, i ≤ 0 ∧ iv = .int .i64 (i : Int) ∧ Hid (Mk x W 9 1 ov (2 + i) (wc ([kw 1, bl nm] ++ ul.take i)) ∧ W.heap[ub]? = some (.cells #[.int .i64 ga, .int .i64 gb, .int .i64 gc] 3 (0, 0)))) (fun ov iv _ => 0 - (intOf iv).toNat)
  case atStart => exact ⟨0, Nat.zero_le _, rfl, MU.out⟩
  case round =>
    obtain ⟨i, hi, rfl, HR⟩ := hrel
    clear MU MZ
    obtain ⟨sv, cv, rfl⟩ := own_shape HR.out.1.own
    have hie : i = 0 := by omega
    subst hie
    have HF : Hid (∃ b cap, Value.slice sv (2 + 0) cv = .slice (some ⟨b, 0, none⟩) (lineW T c ⟨1, nm, op, ga, gb, gc⟩).length cap ∧ w.heap.size ≤ b ∧ WordsAt wr b (lineW T c ⟨1, nm, op, ga, gb, gc⟩) ∧ Below w.heap.size w wr) := by
      have e1 : lineW T c ⟨1, nm, op, ga, gb, gc⟩ = [kw 1, bl nm] ++ ul.take 0 := by
        rw [UL.out]
        simp [lineW, frontW, usedL]
      rw [e1]
      obtain ⟨b, cap, e2, hb2, hw2⟩ := own_words HR.out.1.own (by simp)
      have hx2 := SX.out
      exact ⟨b, cap, e2, by omega, hw2, BX.out.trans (HR.out.1.below.mono (by omega))⟩
    obtain ⟨b, cap, e2, hf⟩ := HF.out
    have E2 := hid e2
    clear e2 HR HF
    go_wp2
    go_ret
    exact ⟨b, cap, by rw [← E2.out]; rfl, hf⟩

set_option maxHeartbeats 4000000 in
theorem line_2 (T : Nat → ByteArray) (c : Net) (sg so : Option Addr) (cg co : Nat) (nm : ByteArray) (op ga gb gc : Int) (w : World) (hc : CirAt w c sg so) (hK : KindsAt w) (hW : KwAt w) (ht : OpsAt w 2 T) (h2 : 0 ≤ op ∧ op < 16) (hga : 0 ≤ ga ∧ ga < (c.gates.length : Int)) (hgb : 0 ≤ gb ∧ gb < (c.gates.length : Int)) :
    Calls Tryz.prog 25 #[cirV c sg cg so co, .agg (#[Value.int .i64 2, Value.string nm, Value.int .i64 op, Value.int .i64 ga, Value.int .i64 gb, Value.int .i64 gc] : Array Value)] w fun e w' => ∃ b cap, e = .returned (.slice (some ⟨b, 0, none⟩) (lineW T c ⟨2, nm, op, ga, gb, gc⟩).length cap) ∧ w.heap.size ≤ b ∧ WordsAt w' b (lineW T c ⟨2, nm, op, ga, gb, gc⟩) ∧ Below w.heap.size w w' := by
  obtain ⟨x, hx⟩ : ∃ x, x = (w.alloc (Obj.cells (#[Value.string c.name, Value.slice sg c.gates.length cg, Value.slice so c.outs.length co] : Array Value) 25)).alloc (Obj.cells (#[Value.int .i64 2, Value.string nm, Value.int .i64 op, Value.int .i64 ga, Value.int .i64 gb, Value.int .i64 gc] : Array Value) 42) := ⟨_, rfl⟩
  have s1 : (w.alloc (Obj.cells (#[Value.string c.name, Value.slice sg c.gates.length cg, Value.slice so c.outs.length co] : Array Value) 25)).heap.size = w.heap.size + 1 := by simp
  have sx : x.heap.size = w.heap.size + 2 := by rw [hx]; simp
  have R1 : x.heap[w.heap.size]? = some (.cells (#[Value.string c.name, Value.slice sg c.gates.length cg, Value.slice so c.outs.length co] : Array Value) 25 (0, 0)) := by rw [hx, Below.heap_alloc _ _ _ (by omega)]; exact heap_alloc_new w _
  have R2 : x.heap[w.heap.size + 1]? = some (.cells (#[Value.int .i64 2, Value.string nm, Value.int .i64 op, Value.int .i64 ga, Value.int .i64 gb, Value.int .i64 gc] : Array Value) 42 (0, 0)) := by rw [hx, ← s1]; exact heap_alloc_new _ _
  have BX : Hid (Below w.heap.size w x) := by rw [hx]; exact ((Below.refl _ _).alloc (Nat.le_refl _) _).alloc (by omega) _
  have hp := hK.pos
  have KX : Hid (CirAt x c sg so ∧ KindsAt x ∧ KwAt x ∧ OpsAt x 2 T) := ⟨hc.below BX.out, hK.on BX.out, hW.on hp BX.out, ht.on BX.out⟩
  have KS : Hid (∀ W, Below x.heap.size x W → W.cell? ⟨w.heap.size + 1, 0, none⟩ = some (.int .i64 2) ∧ W.cell? ⟨w.heap.size + 1, 1, none⟩ = some (.string nm) ∧ W.cell? ⟨1, 6, none⟩ = some (str (kw 2))) := fun W hW' => by
    have h2 := (hW'.block _ (Array.getElem?_eq_some_iff.1 R2).1).trans R2
    exact ⟨cell_row h2 0, cell_row h2 1, (KX.out.2.2.1.on (by omega) hW').word 2 (by decide) (by decide)⟩
  have RS : Hid (∀ W, Below x.heap.size x W → W.heap[w.heap.size]? = some (.cells (#[Value.string c.name, Value.slice sg c.gates.length cg, Value.slice so c.outs.length co] : Array Value) 25 (0, 0)) ∧ W.heap[w.heap.size + 1]? = some (.cells (#[Value.int .i64 2, Value.string nm, Value.int .i64 op, Value.int .i64 ga, Value.int .i64 gb, Value.int .i64 gc] : Array Value) 42 (0, 0))) := fun W hW' => ⟨(hW'.block _ (by omega)).trans R1, (hW'.block _ (by omega)).trans R2⟩
  obtain ⟨nga, gbk, gof, rfl, ln0, rfl, lgt, -⟩ := nm_at KX.out.1.gates ga hga.1 hga.2
  have Nga : Hid (∀ W, Below x.heap.size x W → W.cell? ⟨gbk, gof + nga * 6 + 1, none⟩ = some (.string (nmAt c (nga : Int)))) := fun W hW2 => by
    obtain ⟨n', b', o', e1, _, e2, hlt, hcell⟩ := nm_at KX.out.1.gates (nga : Int) hga.1 hga.2
    cases e2
    obtain rfl : nga = n' := by omega
    exact below_cell hW2 hlt hcell
  obtain ⟨ngb, -, -, rfl, ln1, -, -, -⟩ := nm_at KX.out.1.gates gb hgb.1 hgb.2
  have Ngb : Hid (∀ W, Below x.heap.size x W → W.cell? ⟨gbk, gof + ngb * 6 + 1, none⟩ = some (.string (nmAt c (ngb : Int)))) := fun W hW2 => by
    obtain ⟨n', b', o', e1, _, e2, hlt, hcell⟩ := nm_at KX.out.1.gates (ngb : Int) hgb.1 hgb.2
    cases e2
    obtain rfl : ngb = n' := by omega
    exact below_cell hW2 hlt hcell
  obtain ⟨no, rfl⟩ := Int.eq_ofNat_of_zero_le h2.1
  have HU : Hid (∀ W, KindsAt W → Calls Tryz.prog 44 #[.agg #[.int .i64 2, .string nm, .int .i64 (no : Int), .int .i64 (nga : Int), .int .i64 (ngb : Int), .int .i64 gc]] W fun e w' => ∃ b, e = .returned (.slice (some ⟨b, 0, none⟩) 2 3) ∧ W.heap.size ≤ b ∧ w'.heap[b]? = some (.cells #[.int .i64 (nga : Int), .int .i64 (ngb : Int), .int .i64 gc] 3 (0, 0)) ∧ Below W.heap.size W w') := fun W hKW => used_any 2 ⟨2, nm, (no : Int), (nga : Int), (ngb : Int), gc⟩ W hKW rfl (by decide) (by decide)
  have HX := hid hx
  have SX := hid sx
  clear hx hK hc hW ht R1 R2 s1 sx
  go_enter Tryz.func25, Tryz.ntmps25
  go_wp2_with (rw [← HX.out])
  refine wp_region_noPanic ?_
  refine wp_region_held_drew (S := fun W => W.cell? ⟨w.heap.size + 1, 0, none⟩ = some (.int .i64 2) ∧ W.cell? ⟨w.heap.size + 1, 1, none⟩ = some (.string nm) ∧ W.cell? ⟨1, 6, none⟩ = some (str (kw 2))) (by kernel_rfl) (KS.out _ (by first | exact (Below.refl _ _).drew | exact ((Below.refl _ _).alloc (Nat.le_refl _) _).drew)) (fun hHeld => ?_)
  refine wpAnyH_take (i := 0) (v := ?_) (by simp only [List.getElem?_toArray, List.getElem?_cons_zero]; rfl) (by kernel_rfl) (by kernel_rfl) (by kernel_rfl) (fun _ _ _ h => h) (Or.inl ⟨by rfl, ?_⟩) (by assumption) ?_
  rotate_left 1
  · intro w hSw; (try dsimp only at hSw); go_simp; (try with_reducible rfl)
  try simp only [Act.put, List.setIfInBounds_toArray, List.set_cons_zero, List.set_cons_succ]
  refine wpAnyH_take (i := 1) (v := ?_) (by simp only [List.getElem?_toArray, List.getElem?_cons_succ, List.getElem?_cons_zero]; rfl) (by kernel_rfl) (by kernel_rfl) (by kernel_rfl) (fun _ _ _ h => h) (Or.inl ⟨by rfl, ?_⟩) (by assumption) ?_
  rotate_left 1
  · intro w hSw; (try dsimp only at hSw); go_simp; (try with_reducible rfl)
  try simp only [Act.put, List.setIfInBounds_toArray, List.set_cons_zero, List.set_cons_succ]
  refine wpAnyH_take (i := 2) (v := ?_) (by simp only [List.getElem?_toArray, List.getElem?_cons_succ, List.getElem?_cons_zero]; rfl) (by kernel_rfl) (by kernel_rfl) (by kernel_rfl) (fun _ _ _ h => h) (Or.inl ⟨by rfl, ?_⟩) (by assumption) ?_
  rotate_left 1
  · intro w hSw; (try dsimp only at hSw); go_simp; (try with_reducible rfl)
  try simp only [Act.put, List.setIfInBounds_toArray, List.set_cons_zero, List.set_cons_succ]
  refine wpAnyH_take (i := 3) (v := ?_) (by simp only [List.getElem?_toArray, List.getElem?_cons_succ, List.getElem?_cons_zero]; rfl) (by kernel_rfl) (by kernel_rfl) (by kernel_rfl) (fun _ _ _ h => h) (Or.inl ⟨by rfl, ?_⟩) (by assumption) ?_
  rotate_left 1
  · intro w hSw; (try dsimp only at hSw); go_simp; (try with_reducible rfl)
  try simp only [Act.put, List.setIfInBounds_toArray, List.set_cons_zero, List.set_cons_succ]
  refine wpAnyH_take (i := 4) (v := ?_) (by simp only [List.getElem?_toArray, List.getElem?_cons_succ, List.getElem?_cons_zero]; rfl) (by kernel_rfl) (by kernel_rfl) (by kernel_rfl) (fun _ _ _ h => h) (Or.inl ⟨by rfl, ?_⟩) (by assumption) ?_
  rotate_left 1
  · intro w hSw; (try dsimp only at hSw); go_simp; (try with_reducible rfl)
  try simp only [Act.put, List.setIfInBounds_toArray, List.set_cons_zero, List.set_cons_succ]
  refine wpAnyH_take (i := 5) (v := ?_) (by simp only [List.getElem?_toArray, List.getElem?_cons_succ, List.getElem?_cons_zero]; rfl) (by kernel_rfl) (by kernel_rfl) (by kernel_rfl) (fun _ _ _ h => h) (Or.inl ⟨by rfl, ?_⟩) (by assumption) ?_
  rotate_left 1
  · intro w hSw; (try dsimp only at hSw); go_simp; (try with_reducible rfl)
  try simp only [Act.put, List.setIfInBounds_toArray, List.set_cons_zero, List.set_cons_succ]
  refine wpAnyH_take (i := 6) (v := ?_) (by simp only [List.getElem?_toArray, List.getElem?_cons_succ, List.getElem?_cons_zero]; rfl) (by kernel_rfl) (by kernel_rfl) (by kernel_rfl) (fun _ _ _ h => h) (Or.inl ⟨by rfl, ?_⟩) (by assumption) ?_
  rotate_left 1
  · intro w hSw; (try dsimp only at hSw); go_simp; (try with_reducible rfl)
  try simp only [Act.put, List.setIfInBounds_toArray, List.set_cons_zero, List.set_cons_succ]
  refine wpAnyH_ready (rs := [7]) (by kernel_rfl) (by simp) ?_
  refine AllReadyH.cons (by simp only [List.getElem?_toArray, List.getElem?_cons_succ, List.getElem?_cons_zero]; rfl) (fun K hK => ?_) AllReadyH.nil
  go_simp
  clear hHeld
  refine hK.out _ _ (KS.out _ (by first | exact (Below.refl _ _).drew | exact ((Below.refl _ _).alloc (Nat.le_refl _) _).drew)) (fun hHeld => ?_)
  clear hK K
  try simp only [Act.put, List.setIfInBounds_toArray, List.set_cons_zero, List.set_cons_succ]
  refine wpAnyH_take (i := 8) (v := ?_) (by simp only [List.getElem?_toArray, List.getElem?_cons_succ, List.getElem?_cons_zero]; rfl) (by kernel_rfl) (by kernel_rfl) (by kernel_rfl) (fun _ _ _ h => h) (Or.inl ⟨by rfl, ?_⟩) (by assumption) ?_
  rotate_left 1
  · intro w hSw; (try dsimp only at hSw); go_simp; (try with_reducible rfl)
  try simp only [Act.put, List.setIfInBounds_toArray, List.set_cons_zero, List.set_cons_succ]
  refine wpAnyH_done (by kernel_rfl) ?_ _
  refine NoPanic.normal ?_
  obtain ⟨y, hy⟩ : ∃ y, y = (x.alloc (.cells #[str (kw 2), .string nm] 9)).drew := ⟨_, rfl⟩
  first | rw [← hy] | (trace_state; fail)
  have MY : Hid (Mk x y 9 1 (.slice (some ⟨x.heap.size, 0, none⟩) 2 2) 2 (wc [kw 2, bl nm])) := by
    refine ⟨⟨rfl, .inr ⟨x.heap.size, 2, #[str (kw 2), .string nm], rfl, Nat.le_refl _, ?_, by omega, by unfold maxLen; omega, rfl, rfl⟩⟩, ?_⟩
    · rw [hy]; exact heap_alloc_new x _
    · rw [hy]; exact ((Below.refl _ _).alloc (Nat.le_refl _) _).drew
  clear hy
  clear hHeld KS
  have q1 := fun j => cell_row (RS.out y MY.out.below).1 j; have q2 := fun j => cell_row (RS.out y MY.out.below).2 j; have l1 := (Array.getElem?_eq_some_iff.1 (RS.out y MY.out.below).1).1; have l2 := (Array.getElem?_eq_some_iff.1 (RS.out y MY.out.below).2).1
  have sy := MY.out.below.size
  have lo : no < 16 := by omega
  have cw := (KX.out.2.2.2.on MY.out.below).word no lo
  have hp2 := (KX.out.2.2.2.on MY.out.below).pos
  go_wp2_with (first | (go_at_call 44; refine HUZ.out.mono ?_; rintro e u ⟨ub, rfl, hub, hur, hbu⟩) | (at_builtin; refine mk_app rfl _ _ 61 (.string ⟨#[]⟩) 16 rfl Tryz.underlying61 info9w rfl (by decide) MY.out [.string (T no)] 9 _ rfl rfl rfl rfl (fun u hu => by simp at hu; subst hu; rfl) (by omega) (by omega) ?_; intro sz cz z _ mz; have MZ := hid mz; clear mz q1 q2 l1 l2 cw hp2 MY; have q1 := fun j => cell_row (RS.out z MZ.out.below).1 j; have q2 := fun j => cell_row (RS.out z MZ.out.below).2 j; have l1 := (Array.getElem?_eq_some_iff.1 (RS.out z MZ.out.below).1).1; have l2 := (Array.getElem?_eq_some_iff.1 (RS.out z MZ.out.below).2).1; have HUZ := hid (HU.out z (KX.out.2.1.on MZ.out.below))))
  obtain ⟨ul, hul⟩ : ∃ ul : List (List UInt8), ul = [bl (nmAt c (nga : Int)), bl (nmAt c (ngb : Int))] := ⟨_, rfl⟩
  have UL := hid hul
  clear hul
  have MU : Hid (Mk x u 9 1 (.slice sz 3 cz) (3 + 0) (wc ([kw 2, bl nm, bl (T no)] ++ ul.take 0)) ∧ u.heap[ub]? = some (.cells #[.int .i64 (nga : Int), .int .i64 (ngb : Int), .int .i64 gc] 3 (0, 0))) := by
    refine ⟨?_, hur⟩
    have h := MZ.out.on hbu
    rw [List.take_zero, List.append_nil]; exact h
  clear hub hur hbu q1 q2 l1 l2 HUZ
  go_wp2
  go_loopw [5, 38] (fun ov iv W => ∃ i : Nat, i ≤ 2 ∧ iv = .int .i64 (i : Int) ∧ Hid (Mk x W 9 1 ov (3 + i) (wc ([kw 2, bl nm, bl (T no)] ++ ul.take i)) ∧ W.heap[ub]? = some (.cells #[.int .i64 (nga : Int), .int .i64 (ngb : Int), .int .i64 gc] 3 (0, 0)))) (fun ov iv _ => 2 - (intOf iv).toNat)
  case atStart => exact ⟨0, Nat.zero_le _, rfl, MU.out⟩
  case round =>
    obtain ⟨i, hi, rfl, HR⟩ := hrel
    clear MU MZ
    obtain ⟨sv, cv, rfl⟩ := own_shape HR.out.1.own
    by_cases hi0 : i = 0
    · subst hi0
      have q1 := fun j => cell_row (RS.out wr HR.out.1.below).1 j; have q2 := fun j => cell_row (RS.out wr HR.out.1.below).2 j; have l1 := (Array.getElem?_eq_some_iff.1 (RS.out wr HR.out.1.below).1).1; have l2 := (Array.getElem?_eq_some_iff.1 (RS.out wr HR.out.1.below).2).1
      have qu := fun j => cell_row HR.out.2 j
      have lu := (Array.getElem?_eq_some_iff.1 HR.out.2).1
      have hb := Nga.out wr HR.out.1.below
      have lb := Nat.lt_of_lt_of_le lgt HR.out.1.below.size
      go_wp2_with (at_builtin; refine mk_app rfl _ _ 61 (.string ⟨#[]⟩) 16 rfl Tryz.underlying61 info9w rfl (by decide) HR.out.1 [.string (nmAt c (nga : Int))] 9 _ rfl rfl rfl rfl (fun u hu => by simp at hu; subst hu; rfl) (by omega) (by omega) ?_; intro sz2 cz2 w2 g2 m2; have M2 := hid m2; have G2 := hid g2; clear m2 g2)
      refine ⟨⟨0 + 1, by omega, by go_num, ?_, ?_⟩, by simp [intOf] <;> omega⟩
      · have h := M2.out
        rw [UL.out] at h ⊢
        exact h
      · have ho := (HR.out.1.on ((Below.refl _ _).alloc (Nat.le_refl _) (Obj.cells [Value.string (nmAt c (nga : Int))].toArray 9))).own
        have hr2 := (Below.heap_alloc wr (Obj.cells [Value.string (nmAt c (nga : Int))].toArray 9) ub lu).trans HR.out.2
        exact (G2.out.block ub (Array.getElem?_eq_some_iff.1 hr2).1 (fun e => own_ne ho hr2 (by decide) e.symm)).trans hr2
    by_cases hi1 : i = 1
    · subst hi1
      have q1 := fun j => cell_row (RS.out wr HR.out.1.below).1 j; have q2 := fun j => cell_row (RS.out wr HR.out.1.below).2 j; have l1 := (Array.getElem?_eq_some_iff.1 (RS.out wr HR.out.1.below).1).1; have l2 := (Array.getElem?_eq_some_iff.1 (RS.out wr HR.out.1.below).2).1
      have qu := fun j => cell_row HR.out.2 j
      have lu := (Array.getElem?_eq_some_iff.1 HR.out.2).1
      have hb := Ngb.out wr HR.out.1.below
      have lb := Nat.lt_of_lt_of_le lgt HR.out.1.below.size
      go_wp2_with (at_builtin; refine mk_app rfl _ _ 61 (.string ⟨#[]⟩) 16 rfl Tryz.underlying61 info9w rfl (by decide) HR.out.1 [.string (nmAt c (ngb : Int))] 9 _ rfl rfl rfl rfl (fun u hu => by simp at hu; subst hu; rfl) (by omega) (by omega) ?_; intro sz2 cz2 w2 g2 m2; have M2 := hid m2; have G2 := hid g2; clear m2 g2)
      refine ⟨⟨1 + 1, by omega, by go_num, ?_, ?_⟩, by simp [intOf] <;> omega⟩
      · have h := M2.out
        rw [UL.out] at h ⊢
        exact h
      · have ho := (HR.out.1.on ((Below.refl _ _).alloc (Nat.le_refl _) (Obj.cells [Value.string (nmAt c (ngb : Int))].toArray 9))).own
        have hr2 := (Below.heap_alloc wr (Obj.cells [Value.string (nmAt c (ngb : Int))].toArray 9) ub lu).trans HR.out.2
        exact (G2.out.block ub (Array.getElem?_eq_some_iff.1 hr2).1 (fun e => own_ne ho hr2 (by decide) e.symm)).trans hr2
    have hie : i = 2 := by omega
    subst hie
    have HF : Hid (∃ b cap, Value.slice sv (3 + 2) cv = .slice (some ⟨b, 0, none⟩) (lineW T c ⟨2, nm, (no : Int), (nga : Int), (ngb : Int), gc⟩).length cap ∧ w.heap.size ≤ b ∧ WordsAt wr b (lineW T c ⟨2, nm, (no : Int), (nga : Int), (ngb : Int), gc⟩) ∧ Below w.heap.size w wr) := by
      have e1 : lineW T c ⟨2, nm, (no : Int), (nga : Int), (ngb : Int), gc⟩ = [kw 2, bl nm, bl (T no)] ++ ul.take 2 := by
        rw [UL.out]
        simp [lineW, frontW, usedL]
      rw [e1]
      obtain ⟨b, cap, e2, hb2, hw2⟩ := own_words HR.out.1.own (by simp)
      have hx2 := SX.out
      exact ⟨b, cap, e2, by omega, hw2, BX.out.trans (HR.out.1.below.mono (by omega))⟩
    obtain ⟨b, cap, e2, hf⟩ := HF.out
    have E2 := hid e2
    clear e2 HR HF
    go_wp2
    go_ret
    exact ⟨b, cap, by rw [← E2.out]; rfl, hf⟩

set_option maxHeartbeats 4000000 in
theorem line_3 (T : Nat → ByteArray) (c : Net) (sg so : Option Addr) (cg co : Nat) (nm : ByteArray) (op ga gb gc : Int) (w : World) (hc : CirAt w c sg so) (hK : KindsAt w) (hW : KwAt w) (ht : OpsAt w 2 T) (h3 : op = 0 ∨ op = 1) (hga : 0 ≤ ga ∧ ga < (c.gates.length : Int)) :
    Calls Tryz.prog 25 #[cirV c sg cg so co, .agg (#[Value.int .i64 3, Value.string nm, Value.int .i64 op, Value.int .i64 ga, Value.int .i64 gb, Value.int .i64 gc] : Array Value)] w fun e w' => ∃ b cap, e = .returned (.slice (some ⟨b, 0, none⟩) (lineW T c ⟨3, nm, op, ga, gb, gc⟩).length cap) ∧ w.heap.size ≤ b ∧ WordsAt w' b (lineW T c ⟨3, nm, op, ga, gb, gc⟩) ∧ Below w.heap.size w w' := by
  obtain ⟨x, hx⟩ : ∃ x, x = (w.alloc (Obj.cells (#[Value.string c.name, Value.slice sg c.gates.length cg, Value.slice so c.outs.length co] : Array Value) 25)).alloc (Obj.cells (#[Value.int .i64 3, Value.string nm, Value.int .i64 op, Value.int .i64 ga, Value.int .i64 gb, Value.int .i64 gc] : Array Value) 42) := ⟨_, rfl⟩
  have s1 : (w.alloc (Obj.cells (#[Value.string c.name, Value.slice sg c.gates.length cg, Value.slice so c.outs.length co] : Array Value) 25)).heap.size = w.heap.size + 1 := by simp
  have sx : x.heap.size = w.heap.size + 2 := by rw [hx]; simp
  have R1 : x.heap[w.heap.size]? = some (.cells (#[Value.string c.name, Value.slice sg c.gates.length cg, Value.slice so c.outs.length co] : Array Value) 25 (0, 0)) := by rw [hx, Below.heap_alloc _ _ _ (by omega)]; exact heap_alloc_new w _
  have R2 : x.heap[w.heap.size + 1]? = some (.cells (#[Value.int .i64 3, Value.string nm, Value.int .i64 op, Value.int .i64 ga, Value.int .i64 gb, Value.int .i64 gc] : Array Value) 42 (0, 0)) := by rw [hx, ← s1]; exact heap_alloc_new _ _
  have BX : Hid (Below w.heap.size w x) := by rw [hx]; exact ((Below.refl _ _).alloc (Nat.le_refl _) _).alloc (by omega) _
  have hp := hK.pos
  have KX : Hid (CirAt x c sg so ∧ KindsAt x ∧ KwAt x ∧ OpsAt x 2 T) := ⟨hc.below BX.out, hK.on BX.out, hW.on hp BX.out, ht.on BX.out⟩
  have KS : Hid (∀ W, Below x.heap.size x W → W.cell? ⟨w.heap.size + 1, 0, none⟩ = some (.int .i64 3) ∧ W.cell? ⟨w.heap.size + 1, 1, none⟩ = some (.string nm) ∧ W.cell? ⟨1, 9, none⟩ = some (str (kw 3))) := fun W hW' => by
    have h2 := (hW'.block _ (Array.getElem?_eq_some_iff.1 R2).1).trans R2
    exact ⟨cell_row h2 0, cell_row h2 1, (KX.out.2.2.1.on (by omega) hW').word 3 (by decide) (by decide)⟩
  have RS : Hid (∀ W, Below x.heap.size x W → W.heap[w.heap.size]? = some (.cells (#[Value.string c.name, Value.slice sg c.gates.length cg, Value.slice so c.outs.length co] : Array Value) 25 (0, 0)) ∧ W.heap[w.heap.size + 1]? = some (.cells (#[Value.int .i64 3, Value.string nm, Value.int .i64 op, Value.int .i64 ga, Value.int .i64 gb, Value.int .i64 gc] : Array Value) 42 (0, 0))) := fun W hW' => ⟨(hW'.block _ (by omega)).trans R1, (hW'.block _ (by omega)).trans R2⟩
  obtain ⟨nga, gbk, gof, rfl, ln0, rfl, lgt, -⟩ := nm_at KX.out.1.gates ga hga.1 hga.2
  have Nga : Hid (∀ W, Below x.heap.size x W → W.cell? ⟨gbk, gof + nga * 6 + 1, none⟩ = some (.string (nmAt c (nga : Int)))) := fun W hW2 => by
    obtain ⟨n', b', o', e1, _, e2, hlt, hcell⟩ := nm_at KX.out.1.gates (nga : Int) hga.1 hga.2
    cases e2
    obtain rfl : nga = n' := by omega
    exact below_cell hW2 hlt hcell
  obtain ⟨dg, hdg⟩ : ∃ dg : List UInt8, dg = (if op = 1 then [49] else [48]) := ⟨_, rfl⟩
  have HD : Hid (∀ W, Calls Tryz.prog 43 #[.int .i64 op] W fun e w' => e = .returned (str dg) ∧ w' = W) := fun W => by
    rcases h3 with rfl | rfl
    · rw [hdg]; exact itoa_0 W
    · rw [hdg]; exact itoa_1 W
  have HDG := hid hdg
  clear hdg h3
  have HU : Hid (∀ W, KindsAt W → Calls Tryz.prog 44 #[.agg #[.int .i64 3, .string nm, .int .i64 op, .int .i64 (nga : Int), .int .i64 gb, .int .i64 gc]] W fun e w' => ∃ b, e = .returned (.slice (some ⟨b, 0, none⟩) 1 3) ∧ W.heap.size ≤ b ∧ w'.heap[b]? = some (.cells #[.int .i64 (nga : Int), .int .i64 gb, .int .i64 gc] 3 (0, 0)) ∧ Below W.heap.size W w') := fun W hKW => used_any 3 ⟨3, nm, op, (nga : Int), gb, gc⟩ W hKW rfl (by decide) (by decide)
  have HX := hid hx
  have SX := hid sx
  clear hx hK hc hW ht R1 R2 s1 sx
  go_enter Tryz.func25, Tryz.ntmps25
  go_wp2_with (rw [← HX.out])
  refine wp_region_noPanic ?_
  refine wp_region_held_drew (S := fun W => W.cell? ⟨w.heap.size + 1, 0, none⟩ = some (.int .i64 3) ∧ W.cell? ⟨w.heap.size + 1, 1, none⟩ = some (.string nm) ∧ W.cell? ⟨1, 9, none⟩ = some (str (kw 3))) (by kernel_rfl) (KS.out _ (by first | exact (Below.refl _ _).drew | exact ((Below.refl _ _).alloc (Nat.le_refl _) _).drew)) (fun hHeld => ?_)
  refine wpAnyH_take (i := 0) (v := ?_) (by simp only [List.getElem?_toArray, List.getElem?_cons_zero]; rfl) (by kernel_rfl) (by kernel_rfl) (by kernel_rfl) (fun _ _ _ h => h) (Or.inl ⟨by rfl, ?_⟩) (by assumption) ?_
  rotate_left 1
  · intro w hSw; (try dsimp only at hSw); go_simp; (try with_reducible rfl)
  try simp only [Act.put, List.setIfInBounds_toArray, List.set_cons_zero, List.set_cons_succ]
  refine wpAnyH_take (i := 1) (v := ?_) (by simp only [List.getElem?_toArray, List.getElem?_cons_succ, List.getElem?_cons_zero]; rfl) (by kernel_rfl) (by kernel_rfl) (by kernel_rfl) (fun _ _ _ h => h) (Or.inl ⟨by rfl, ?_⟩) (by assumption) ?_
  rotate_left 1
  · intro w hSw; (try dsimp only at hSw); go_simp; (try with_reducible rfl)
  try simp only [Act.put, List.setIfInBounds_toArray, List.set_cons_zero, List.set_cons_succ]
  refine wpAnyH_take (i := 2) (v := ?_) (by simp only [List.getElem?_toArray, List.getElem?_cons_succ, List.getElem?_cons_zero]; rfl) (by kernel_rfl) (by kernel_rfl) (by kernel_rfl) (fun _ _ _ h => h) (Or.inl ⟨by rfl, ?_⟩) (by assumption) ?_
  rotate_left 1
  · intro w hSw; (try dsimp only at hSw); go_simp; (try with_reducible rfl)
  try simp only [Act.put, List.setIfInBounds_toArray, List.set_cons_zero, List.set_cons_succ]
  refine wpAnyH_take (i := 3) (v := ?_) (by simp only [List.getElem?_toArray, List.getElem?_cons_succ, List.getElem?_cons_zero]; rfl) (by kernel_rfl) (by kernel_rfl) (by kernel_rfl) (fun _ _ _ h => h) (Or.inl ⟨by rfl, ?_⟩) (by assumption) ?_
  rotate_left 1
  · intro w hSw; (try dsimp only at hSw); go_simp; (try with_reducible rfl)
  try simp only [Act.put, List.setIfInBounds_toArray, List.set_cons_zero, List.set_cons_succ]
  refine wpAnyH_take (i := 4) (v := ?_) (by simp only [List.getElem?_toArray, List.getElem?_cons_succ, List.getElem?_cons_zero]; rfl) (by kernel_rfl) (by kernel_rfl) (by kernel_rfl) (fun _ _ _ h => h) (Or.inl ⟨by rfl, ?_⟩) (by assumption) ?_
  rotate_left 1
  · intro w hSw; (try dsimp only at hSw); go_simp; (try with_reducible rfl)
  try simp only [Act.put, List.setIfInBounds_toArray, List.set_cons_zero, List.set_cons_succ]
  refine wpAnyH_take (i := 5) (v := ?_) (by simp only [List.getElem?_toArray, List.getElem?_cons_succ, List.getElem?_cons_zero]; rfl) (by kernel_rfl) (by kernel_rfl) (by kernel_rfl) (fun _ _ _ h => h) (Or.inl ⟨by rfl, ?_⟩) (by assumption) ?_
  rotate_left 1
  · intro w hSw; (try dsimp only at hSw); go_simp; (try with_reducible rfl)
  try simp only [Act.put, List.setIfInBounds_toArray, List.set_cons_zero, List.set_cons_succ]
  refine wpAnyH_take (i := 6) (v := ?_) (by simp only [List.getElem?_toArray, List.getElem?_cons_succ, List.getElem?_cons_zero]; rfl) (by kernel_rfl) (by kernel_rfl) (by kernel_rfl) (fun _ _ _ h => h) (Or.inl ⟨by rfl, ?_⟩) (by assumption) ?_
  rotate_left 1
  · intro w hSw; (try dsimp only at hSw); go_simp; (try with_reducible rfl)
  try simp only [Act.put, List.setIfInBounds_toArray, List.set_cons_zero, List.set_cons_succ]
  refine wpAnyH_ready (rs := [7]) (by kernel_rfl) (by simp) ?_
  refine AllReadyH.cons (by simp only [List.getElem?_toArray, List.getElem?_cons_succ, List.getElem?_cons_zero]; rfl) (fun K hK => ?_) AllReadyH.nil
  go_simp
  clear hHeld
  refine hK.out _ _ (KS.out _ (by first | exact (Below.refl _ _).drew | exact ((Below.refl _ _).alloc (Nat.le_refl _) _).drew)) (fun hHeld => ?_)
  clear hK K
  try simp only [Act.put, List.setIfInBounds_toArray, List.set_cons_zero, List.set_cons_succ]
  refine wpAnyH_take (i := 8) (v := ?_) (by simp only [List.getElem?_toArray, List.getElem?_cons_succ, List.getElem?_cons_zero]; rfl) (by kernel_rfl) (by kernel_rfl) (by kernel_rfl) (fun _ _ _ h => h) (Or.inl ⟨by rfl, ?_⟩) (by assumption) ?_
  rotate_left 1
  · intro w hSw; (try dsimp only at hSw); go_simp; (try with_reducible rfl)
  try simp only [Act.put, List.setIfInBounds_toArray, List.set_cons_zero, List.set_cons_succ]
  refine wpAnyH_done (by kernel_rfl) ?_ _
  refine NoPanic.normal ?_
  obtain ⟨y, hy⟩ : ∃ y, y = (x.alloc (.cells #[str (kw 3), .string nm] 9)).drew := ⟨_, rfl⟩
  first | rw [← hy] | (trace_state; fail)
  have MY : Hid (Mk x y 9 1 (.slice (some ⟨x.heap.size, 0, none⟩) 2 2) 2 (wc [kw 3, bl nm])) := by
    refine ⟨⟨rfl, .inr ⟨x.heap.size, 2, #[str (kw 3), .string nm], rfl, Nat.le_refl _, ?_, by omega, by unfold maxLen; omega, rfl, rfl⟩⟩, ?_⟩
    · rw [hy]; exact heap_alloc_new x _
    · rw [hy]; exact ((Below.refl _ _).alloc (Nat.le_refl _) _).drew
  clear hy
  clear hHeld KS
  have q1 := fun j => cell_row (RS.out y MY.out.below).1 j; have q2 := fun j => cell_row (RS.out y MY.out.below).2 j; have l1 := (Array.getElem?_eq_some_iff.1 (RS.out y MY.out.below).1).1; have l2 := (Array.getElem?_eq_some_iff.1 (RS.out y MY.out.below).2).1
  have sy := MY.out.below.size
  go_wp2_with (first | (go_at_call 44; refine HUZ.out.mono ?_; rintro e u ⟨ub, rfl, hub, hur, hbu⟩) | (at_builtin; refine mk_app rfl _ _ 61 (.string ⟨#[]⟩) 16 rfl Tryz.underlying61 info9w rfl (by decide) MY.out [str dg] 9 _ rfl rfl rfl rfl (fun u hu => by simp at hu; subst hu; rfl) (by omega) (by omega) ?_; intro sz cz z _ mz; have MZ := hid mz; clear mz q1 q2 l1 l2 MY; have q1 := fun j => cell_row (RS.out z MZ.out.below).1 j; have q2 := fun j => cell_row (RS.out z MZ.out.below).2 j; have l1 := (Array.getElem?_eq_some_iff.1 (RS.out z MZ.out.below).1).1; have l2 := (Array.getElem?_eq_some_iff.1 (RS.out z MZ.out.below).2).1; have HUZ := hid (HU.out z (KX.out.2.1.on MZ.out.below))) | (go_at_call 43; refine (HD.out _).mono ?_; rintro e w1 ⟨rfl, rfl⟩))
  obtain ⟨ul, hul⟩ : ∃ ul : List (List UInt8), ul = [bl (nmAt c (nga : Int))] := ⟨_, rfl⟩
  have UL := hid hul
  clear hul
  have MU : Hid (Mk x u 9 1 (.slice sz 3 cz) (3 + 0) (wc ([kw 3, bl nm, dg] ++ ul.take 0)) ∧ u.heap[ub]? = some (.cells #[.int .i64 (nga : Int), .int .i64 gb, .int .i64 gc] 3 (0, 0))) := by
    refine ⟨?_, hur⟩
    have h := MZ.out.on hbu
    rw [List.take_zero, List.append_nil]; exact h
  clear hub hur hbu q1 q2 l1 l2 HUZ
  go_wp2
  go_loopw [5, 38] (fun ov iv W => ∃ i : Nat, i ≤ 1 ∧ iv = .int .i64 (i : Int) ∧ Hid (Mk x W 9 1 ov (3 + i) (wc ([kw 3, bl nm, dg] ++ ul.take i)) ∧ W.heap[ub]? = some (.cells #[.int .i64 (nga : Int), .int .i64 gb, .int .i64 gc] 3 (0, 0)))) (fun ov iv _ => 1 - (intOf iv).toNat)
  case atStart => exact ⟨0, Nat.zero_le _, rfl, MU.out⟩
  case round =>
    obtain ⟨i, hi, rfl, HR⟩ := hrel
    clear MU MZ
    obtain ⟨sv, cv, rfl⟩ := own_shape HR.out.1.own
    by_cases hi0 : i = 0
    · subst hi0
      have q1 := fun j => cell_row (RS.out wr HR.out.1.below).1 j; have q2 := fun j => cell_row (RS.out wr HR.out.1.below).2 j; have l1 := (Array.getElem?_eq_some_iff.1 (RS.out wr HR.out.1.below).1).1; have l2 := (Array.getElem?_eq_some_iff.1 (RS.out wr HR.out.1.below).2).1
      have qu := fun j => cell_row HR.out.2 j
      have lu := (Array.getElem?_eq_some_iff.1 HR.out.2).1
      have hb := Nga.out wr HR.out.1.below
      have lb := Nat.lt_of_lt_of_le lgt HR.out.1.below.size
      go_wp2_with (at_builtin; refine mk_app rfl _ _ 61 (.string ⟨#[]⟩) 16 rfl Tryz.underlying61 info9w rfl (by decide) HR.out.1 [.string (nmAt c (nga : Int))] 9 _ rfl rfl rfl rfl (fun u hu => by simp at hu; subst hu; rfl) (by omega) (by omega) ?_; intro sz2 cz2 w2 g2 m2; have M2 := hid m2; have G2 := hid g2; clear m2 g2)
      refine ⟨⟨0 + 1, by omega, by go_num, ?_, ?_⟩, by simp [intOf] <;> omega⟩
      · have h := M2.out
        rw [UL.out] at h ⊢
        exact h
      · have ho := (HR.out.1.on ((Below.refl _ _).alloc (Nat.le_refl _) (Obj.cells [Value.string (nmAt c (nga : Int))].toArray 9))).own
        have hr2 := (Below.heap_alloc wr (Obj.cells [Value.string (nmAt c (nga : Int))].toArray 9) ub lu).trans HR.out.2
        exact (G2.out.block ub (Array.getElem?_eq_some_iff.1 hr2).1 (fun e => own_ne ho hr2 (by decide) e.symm)).trans hr2
    have hie : i = 1 := by omega
    subst hie
    have HF : Hid (∃ b cap, Value.slice sv (3 + 1) cv = .slice (some ⟨b, 0, none⟩) (lineW T c ⟨3, nm, op, (nga : Int), gb, gc⟩).length cap ∧ w.heap.size ≤ b ∧ WordsAt wr b (lineW T c ⟨3, nm, op, (nga : Int), gb, gc⟩) ∧ Below w.heap.size w wr) := by
      have e1 : lineW T c ⟨3, nm, op, (nga : Int), gb, gc⟩ = [kw 3, bl nm, dg] ++ ul.take 1 := by
        rw [UL.out]; rw [HDG.out]
        simp [lineW, frontW, usedL]
      rw [e1]
      obtain ⟨b, cap, e2, hb2, hw2⟩ := own_words HR.out.1.own (by simp)
      have hx2 := SX.out
      exact ⟨b, cap, e2, by omega, hw2, BX.out.trans (HR.out.1.below.mono (by omega))⟩
    obtain ⟨b, cap, e2, hf⟩ := HF.out
    have E2 := hid e2
    clear e2 HR HF
    go_wp2
    go_ret
    exact ⟨b, cap, by rw [← E2.out]; rfl, hf⟩

set_option maxHeartbeats 4000000 in
theorem line_4 (T : Nat → ByteArray) (c : Net) (sg so : Option Addr) (cg co : Nat) (nm : ByteArray) (op ga gb gc : Int) (w : World) (hc : CirAt w c sg so) (hK : KindsAt w) (hW : KwAt w) (ht : OpsAt w 2 T) (hga : 0 ≤ ga ∧ ga < (c.gates.length : Int)) (hgb : 0 ≤ gb ∧ gb < (c.gates.length : Int)) (hgc : 0 ≤ gc ∧ gc < (c.gates.length : Int)) :
    Calls Tryz.prog 25 #[cirV c sg cg so co, .agg (#[Value.int .i64 4, Value.string nm, Value.int .i64 op, Value.int .i64 ga, Value.int .i64 gb, Value.int .i64 gc] : Array Value)] w fun e w' => ∃ b cap, e = .returned (.slice (some ⟨b, 0, none⟩) (lineW T c ⟨4, nm, op, ga, gb, gc⟩).length cap) ∧ w.heap.size ≤ b ∧ WordsAt w' b (lineW T c ⟨4, nm, op, ga, gb, gc⟩) ∧ Below w.heap.size w w' := by
  obtain ⟨x, hx⟩ : ∃ x, x = (w.alloc (Obj.cells (#[Value.string c.name, Value.slice sg c.gates.length cg, Value.slice so c.outs.length co] : Array Value) 25)).alloc (Obj.cells (#[Value.int .i64 4, Value.string nm, Value.int .i64 op, Value.int .i64 ga, Value.int .i64 gb, Value.int .i64 gc] : Array Value) 42) := ⟨_, rfl⟩
  have s1 : (w.alloc (Obj.cells (#[Value.string c.name, Value.slice sg c.gates.length cg, Value.slice so c.outs.length co] : Array Value) 25)).heap.size = w.heap.size + 1 := by simp
  have sx : x.heap.size = w.heap.size + 2 := by rw [hx]; simp
  have R1 : x.heap[w.heap.size]? = some (.cells (#[Value.string c.name, Value.slice sg c.gates.length cg, Value.slice so c.outs.length co] : Array Value) 25 (0, 0)) := by rw [hx, Below.heap_alloc _ _ _ (by omega)]; exact heap_alloc_new w _
  have R2 : x.heap[w.heap.size + 1]? = some (.cells (#[Value.int .i64 4, Value.string nm, Value.int .i64 op, Value.int .i64 ga, Value.int .i64 gb, Value.int .i64 gc] : Array Value) 42 (0, 0)) := by rw [hx, ← s1]; exact heap_alloc_new _ _
  have BX : Hid (Below w.heap.size w x) := by rw [hx]; exact ((Below.refl _ _).alloc (Nat.le_refl _) _).alloc (by omega) _
  have hp := hK.pos
  have KX : Hid (CirAt x c sg so ∧ KindsAt x ∧ KwAt x ∧ OpsAt x 2 T) := ⟨hc.below BX.out, hK.on BX.out, hW.on hp BX.out, ht.on BX.out⟩
  have KS : Hid (∀ W, Below x.heap.size x W → W.cell? ⟨w.heap.size + 1, 0, none⟩ = some (.int .i64 4) ∧ W.cell? ⟨w.heap.size + 1, 1, none⟩ = some (.string nm) ∧ W.cell? ⟨1, 12, none⟩ = some (str (kw 4))) := fun W hW' => by
    have h2 := (hW'.block _ (Array.getElem?_eq_some_iff.1 R2).1).trans R2
    exact ⟨cell_row h2 0, cell_row h2 1, (KX.out.2.2.1.on (by omega) hW').word 4 (by decide) (by decide)⟩
  have RS : Hid (∀ W, Below x.heap.size x W → W.heap[w.heap.size]? = some (.cells (#[Value.string c.name, Value.slice sg c.gates.length cg, Value.slice so c.outs.length co] : Array Value) 25 (0, 0)) ∧ W.heap[w.heap.size + 1]? = some (.cells (#[Value.int .i64 4, Value.string nm, Value.int .i64 op, Value.int .i64 ga, Value.int .i64 gb, Value.int .i64 gc] : Array Value) 42 (0, 0))) := fun W hW' => ⟨(hW'.block _ (by omega)).trans R1, (hW'.block _ (by omega)).trans R2⟩
  obtain ⟨nga, gbk, gof, rfl, ln0, rfl, lgt, -⟩ := nm_at KX.out.1.gates ga hga.1 hga.2
  have Nga : Hid (∀ W, Below x.heap.size x W → W.cell? ⟨gbk, gof + nga * 6 + 1, none⟩ = some (.string (nmAt c (nga : Int)))) := fun W hW2 => by
    obtain ⟨n', b', o', e1, _, e2, hlt, hcell⟩ := nm_at KX.out.1.gates (nga : Int) hga.1 hga.2
    cases e2
    obtain rfl : nga = n' := by omega
    exact below_cell hW2 hlt hcell
  obtain ⟨ngb, -, -, rfl, ln1, -, -, -⟩ := nm_at KX.out.1.gates gb hgb.1 hgb.2
  have Ngb : Hid (∀ W, Below x.heap.size x W → W.cell? ⟨gbk, gof + ngb * 6 + 1, none⟩ = some (.string (nmAt c (ngb : Int)))) := fun W hW2 => by
    obtain ⟨n', b', o', e1, _, e2, hlt, hcell⟩ := nm_at KX.out.1.gates (ngb : Int) hgb.1 hgb.2
    cases e2
    obtain rfl : ngb = n' := by omega
    exact below_cell hW2 hlt hcell
  obtain ⟨ngc, -, -, rfl, ln2, -, -, -⟩ := nm_at KX.out.1.gates gc hgc.1 hgc.2
  have Ngc : Hid (∀ W, Below x.heap.size x W → W.cell? ⟨gbk, gof + ngc * 6 + 1, none⟩ = some (.string (nmAt c (ngc : Int)))) := fun W hW2 => by
    obtain ⟨n', b', o', e1, _, e2, hlt, hcell⟩ := nm_at KX.out.1.gates (ngc : Int) hgc.1 hgc.2
    cases e2
    obtain rfl : ngc = n' := by omega
    exact below_cell hW2 hlt hcell
  have HU : Hid (∀ W, KindsAt W → Calls Tryz.prog 44 #[.agg #[.int .i64 4, .string nm, .int .i64 op, .int .i64 (nga : Int), .int .i64 (ngb : Int), .int .i64 (ngc : Int)]] W fun e w' => ∃ b, e = .returned (.slice (some ⟨b, 0, none⟩) 3 3) ∧ W.heap.size ≤ b ∧ w'.heap[b]? = some (.cells #[.int .i64 (nga : Int), .int .i64 (ngb : Int), .int .i64 (ngc : Int)] 3 (0, 0)) ∧ Below W.heap.size W w') := fun W hKW => used_any 4 ⟨4, nm, op, (nga : Int), (ngb : Int), (ngc : Int)⟩ W hKW rfl (by decide) (by decide)
  have HX := hid hx
  have SX := hid sx
  clear hx hK hc hW ht R1 R2 s1 sx
  go_enter Tryz.func25, Tryz.ntmps25
  go_wp2_with (rw [← HX.out])
  refine wp_region_noPanic ?_
  refine wp_region_held_drew (S := fun W => W.cell? ⟨w.heap.size + 1, 0, none⟩ = some (.int .i64 4) ∧ W.cell? ⟨w.heap.size + 1, 1, none⟩ = some (.string nm) ∧ W.cell? ⟨1, 12, none⟩ = some (str (kw 4))) (by kernel_rfl) (KS.out _ (by first | exact (Below.refl _ _).drew | exact ((Below.refl _ _).alloc (Nat.le_refl _) _).drew)) (fun hHeld => ?_)
  refine wpAnyH_take (i := 0) (v := ?_) (by simp only [List.getElem?_toArray, List.getElem?_cons_zero]; rfl) (by kernel_rfl) (by kernel_rfl) (by kernel_rfl) (fun _ _ _ h => h) (Or.inl ⟨by rfl, ?_⟩) (by assumption) ?_
  rotate_left 1
  · intro w hSw; (try dsimp only at hSw); go_simp; (try with_reducible rfl)
  try simp only [Act.put, List.setIfInBounds_toArray, List.set_cons_zero, List.set_cons_succ]
  refine wpAnyH_take (i := 1) (v := ?_) (by simp only [List.getElem?_toArray, List.getElem?_cons_succ, List.getElem?_cons_zero]; rfl) (by kernel_rfl) (by kernel_rfl) (by kernel_rfl) (fun _ _ _ h => h) (Or.inl ⟨by rfl, ?_⟩) (by assumption) ?_
  rotate_left 1
  · intro w hSw; (try dsimp only at hSw); go_simp; (try with_reducible rfl)
  try simp only [Act.put, List.setIfInBounds_toArray, List.set_cons_zero, List.set_cons_succ]
  refine wpAnyH_take (i := 2) (v := ?_) (by simp only [List.getElem?_toArray, List.getElem?_cons_succ, List.getElem?_cons_zero]; rfl) (by kernel_rfl) (by kernel_rfl) (by kernel_rfl) (fun _ _ _ h => h) (Or.inl ⟨by rfl, ?_⟩) (by assumption) ?_
  rotate_left 1
  · intro w hSw; (try dsimp only at hSw); go_simp; (try with_reducible rfl)
  try simp only [Act.put, List.setIfInBounds_toArray, List.set_cons_zero, List.set_cons_succ]
  refine wpAnyH_take (i := 3) (v := ?_) (by simp only [List.getElem?_toArray, List.getElem?_cons_succ, List.getElem?_cons_zero]; rfl) (by kernel_rfl) (by kernel_rfl) (by kernel_rfl) (fun _ _ _ h => h) (Or.inl ⟨by rfl, ?_⟩) (by assumption) ?_
  rotate_left 1
  · intro w hSw; (try dsimp only at hSw); go_simp; (try with_reducible rfl)
  try simp only [Act.put, List.setIfInBounds_toArray, List.set_cons_zero, List.set_cons_succ]
  refine wpAnyH_take (i := 4) (v := ?_) (by simp only [List.getElem?_toArray, List.getElem?_cons_succ, List.getElem?_cons_zero]; rfl) (by kernel_rfl) (by kernel_rfl) (by kernel_rfl) (fun _ _ _ h => h) (Or.inl ⟨by rfl, ?_⟩) (by assumption) ?_
  rotate_left 1
  · intro w hSw; (try dsimp only at hSw); go_simp; (try with_reducible rfl)
  try simp only [Act.put, List.setIfInBounds_toArray, List.set_cons_zero, List.set_cons_succ]
  refine wpAnyH_take (i := 5) (v := ?_) (by simp only [List.getElem?_toArray, List.getElem?_cons_succ, List.getElem?_cons_zero]; rfl) (by kernel_rfl) (by kernel_rfl) (by kernel_rfl) (fun _ _ _ h => h) (Or.inl ⟨by rfl, ?_⟩) (by assumption) ?_
  rotate_left 1
  · intro w hSw; (try dsimp only at hSw); go_simp; (try with_reducible rfl)
  try simp only [Act.put, List.setIfInBounds_toArray, List.set_cons_zero, List.set_cons_succ]
  refine wpAnyH_take (i := 6) (v := ?_) (by simp only [List.getElem?_toArray, List.getElem?_cons_succ, List.getElem?_cons_zero]; rfl) (by kernel_rfl) (by kernel_rfl) (by kernel_rfl) (fun _ _ _ h => h) (Or.inl ⟨by rfl, ?_⟩) (by assumption) ?_
  rotate_left 1
  · intro w hSw; (try dsimp only at hSw); go_simp; (try with_reducible rfl)
  try simp only [Act.put, List.setIfInBounds_toArray, List.set_cons_zero, List.set_cons_succ]
  refine wpAnyH_ready (rs := [7]) (by kernel_rfl) (by simp) ?_
  refine AllReadyH.cons (by simp only [List.getElem?_toArray, List.getElem?_cons_succ, List.getElem?_cons_zero]; rfl) (fun K hK => ?_) AllReadyH.nil
  go_simp
  clear hHeld
  refine hK.out _ _ (KS.out _ (by first | exact (Below.refl _ _).drew | exact ((Below.refl _ _).alloc (Nat.le_refl _) _).drew)) (fun hHeld => ?_)
  clear hK K
  try simp only [Act.put, List.setIfInBounds_toArray, List.set_cons_zero, List.set_cons_succ]
  refine wpAnyH_take (i := 8) (v := ?_) (by simp only [List.getElem?_toArray, List.getElem?_cons_succ, List.getElem?_cons_zero]; rfl) (by kernel_rfl) (by kernel_rfl) (by kernel_rfl) (fun _ _ _ h => h) (Or.inl ⟨by rfl, ?_⟩) (by assumption) ?_
  rotate_left 1
  · intro w hSw; (try dsimp only at hSw); go_simp; (try with_reducible rfl)
  try simp only [Act.put, List.setIfInBounds_toArray, List.set_cons_zero, List.set_cons_succ]
  refine wpAnyH_done (by kernel_rfl) ?_ _
  refine NoPanic.normal ?_
  obtain ⟨y, hy⟩ : ∃ y, y = (x.alloc (.cells #[str (kw 4), .string nm] 9)).drew := ⟨_, rfl⟩
  first | rw [← hy] | (trace_state; fail)
  have MY : Hid (Mk x y 9 1 (.slice (some ⟨x.heap.size, 0, none⟩) 2 2) 2 (wc [kw 4, bl nm])) := by
    refine ⟨⟨rfl, .inr ⟨x.heap.size, 2, #[str (kw 4), .string nm], rfl, Nat.le_refl _, ?_, by omega, by unfold maxLen; omega, rfl, rfl⟩⟩, ?_⟩
    · rw [hy]; exact heap_alloc_new x _
    · rw [hy]; exact ((Below.refl _ _).alloc (Nat.le_refl _) _).drew
  clear hy
  clear hHeld KS
  have q1 := fun j => cell_row (RS.out y MY.out.below).1 j; have q2 := fun j => cell_row (RS.out y MY.out.below).2 j; have l1 := (Array.getElem?_eq_some_iff.1 (RS.out y MY.out.below).1).1; have l2 := (Array.getElem?_eq_some_iff.1 (RS.out y MY.out.below).2).1
  have sy := MY.out.below.size
  have HUZ := hid (HU.out y (KX.out.2.1.on MY.out.below))
  have MZ := hid MY.out
  clear MY
  go_wp2_with (first | (go_at_call 44; refine HUZ.out.mono ?_; rintro e u ⟨ub, rfl, hub, hur, hbu⟩))
  obtain ⟨ul, hul⟩ : ∃ ul : List (List UInt8), ul = [bl (nmAt c (nga : Int)), bl (nmAt c (ngb : Int)), bl (nmAt c (ngc : Int))] := ⟨_, rfl⟩
  have UL := hid hul
  clear hul
  have MU : Hid (Mk x u 9 1 (.slice (some ⟨x.heap.size, 0, none⟩) 2 2) (2 + 0) (wc ([kw 4, bl nm] ++ ul.take 0)) ∧ u.heap[ub]? = some (.cells #[.int .i64 (nga : Int), .int .i64 (ngb : Int), .int .i64 (ngc : Int)] 3 (0, 0))) := by
    refine ⟨?_, hur⟩
    have h := MZ.out.on hbu
    simpa [wc] using h
  clear hub hur hbu q1 q2 l1 l2 HUZ
  go_wp2
  go_loopw [5, 38] (fun ov iv W => ∃ i : Nat, i ≤ 3 ∧ iv = .int .i64 (i : Int) ∧ Hid (Mk x W 9 1 ov (2 + i) (wc ([kw 4, bl nm] ++ ul.take i)) ∧ W.heap[ub]? = some (.cells #[.int .i64 (nga : Int), .int .i64 (ngb : Int), .int .i64 (ngc : Int)] 3 (0, 0)))) (fun ov iv _ => 3 - (intOf iv).toNat)
  case atStart => exact ⟨0, Nat.zero_le _, rfl, MU.out⟩
  case round =>
    obtain ⟨i, hi, rfl, HR⟩ := hrel
    clear MU MZ
    obtain ⟨sv, cv, rfl⟩ := own_shape HR.out.1.own
    by_cases hi0 : i = 0
    · subst hi0
      have q1 := fun j => cell_row (RS.out wr HR.out.1.below).1 j; have q2 := fun j => cell_row (RS.out wr HR.out.1.below).2 j; have l1 := (Array.getElem?_eq_some_iff.1 (RS.out wr HR.out.1.below).1).1; have l2 := (Array.getElem?_eq_some_iff.1 (RS.out wr HR.out.1.below).2).1
      have qu := fun j => cell_row HR.out.2 j
      have lu := (Array.getElem?_eq_some_iff.1 HR.out.2).1
      have hb := Nga.out wr HR.out.1.below
      have lb := Nat.lt_of_lt_of_le lgt HR.out.1.below.size
      go_wp2_with (at_builtin; refine mk_app rfl _ _ 61 (.string ⟨#[]⟩) 16 rfl Tryz.underlying61 info9w rfl (by decide) HR.out.1 [.string (nmAt c (nga : Int))] 9 _ rfl rfl rfl rfl (fun u hu => by simp at hu; subst hu; rfl) (by omega) (by omega) ?_; intro sz2 cz2 w2 g2 m2; have M2 := hid m2; have G2 := hid g2; clear m2 g2)
      refine ⟨⟨0 + 1, by omega, by go_num, ?_, ?_⟩, by simp [intOf] <;> omega⟩
      · have h := M2.out
        rw [UL.out] at h ⊢
        exact h
      · have ho := (HR.out.1.on ((Below.refl _ _).alloc (Nat.le_refl _) (Obj.cells [Value.string (nmAt c (nga : Int))].toArray 9))).own
        have hr2 := (Below.heap_alloc wr (Obj.cells [Value.string (nmAt c (nga : Int))].toArray 9) ub lu).trans HR.out.2
        exact (G2.out.block ub (Array.getElem?_eq_some_iff.1 hr2).1 (fun e => own_ne ho hr2 (by decide) e.symm)).trans hr2
    by_cases hi1 : i = 1
    · subst hi1
      have q1 := fun j => cell_row (RS.out wr HR.out.1.below).1 j; have q2 := fun j => cell_row (RS.out wr HR.out.1.below).2 j; have l1 := (Array.getElem?_eq_some_iff.1 (RS.out wr HR.out.1.below).1).1; have l2 := (Array.getElem?_eq_some_iff.1 (RS.out wr HR.out.1.below).2).1
      have qu := fun j => cell_row HR.out.2 j
      have lu := (Array.getElem?_eq_some_iff.1 HR.out.2).1
      have hb := Ngb.out wr HR.out.1.below
      have lb := Nat.lt_of_lt_of_le lgt HR.out.1.below.size
      go_wp2_with (at_builtin; refine mk_app rfl _ _ 61 (.string ⟨#[]⟩) 16 rfl Tryz.underlying61 info9w rfl (by decide) HR.out.1 [.string (nmAt c (ngb : Int))] 9 _ rfl rfl rfl rfl (fun u hu => by simp at hu; subst hu; rfl) (by omega) (by omega) ?_; intro sz2 cz2 w2 g2 m2; have M2 := hid m2; have G2 := hid g2; clear m2 g2)
      refine ⟨⟨1 + 1, by omega, by go_num, ?_, ?_⟩, by simp [intOf] <;> omega⟩
      · have h := M2.out
        rw [UL.out] at h ⊢
        exact h
      · have ho := (HR.out.1.on ((Below.refl _ _).alloc (Nat.le_refl _) (Obj.cells [Value.string (nmAt c (ngb : Int))].toArray 9))).own
        have hr2 := (Below.heap_alloc wr (Obj.cells [Value.string (nmAt c (ngb : Int))].toArray 9) ub lu).trans HR.out.2
        exact (G2.out.block ub (Array.getElem?_eq_some_iff.1 hr2).1 (fun e => own_ne ho hr2 (by decide) e.symm)).trans hr2
    by_cases hi2 : i = 2
    · subst hi2
      have q1 := fun j => cell_row (RS.out wr HR.out.1.below).1 j; have q2 := fun j => cell_row (RS.out wr HR.out.1.below).2 j; have l1 := (Array.getElem?_eq_some_iff.1 (RS.out wr HR.out.1.below).1).1; have l2 := (Array.getElem?_eq_some_iff.1 (RS.out wr HR.out.1.below).2).1
      have qu := fun j => cell_row HR.out.2 j
      have lu := (Array.getElem?_eq_some_iff.1 HR.out.2).1
      have hb := Ngc.out wr HR.out.1.below
      have lb := Nat.lt_of_lt_of_le lgt HR.out.1.below.size
      go_wp2_with (at_builtin; refine mk_app rfl _ _ 61 (.string ⟨#[]⟩) 16 rfl Tryz.underlying61 info9w rfl (by decide) HR.out.1 [.string (nmAt c (ngc : Int))] 9 _ rfl rfl rfl rfl (fun u hu => by simp at hu; subst hu; rfl) (by omega) (by omega) ?_; intro sz2 cz2 w2 g2 m2; have M2 := hid m2; have G2 := hid g2; clear m2 g2)
      refine ⟨⟨2 + 1, by omega, by go_num, ?_, ?_⟩, by simp [intOf] <;> omega⟩
      · have h := M2.out
        rw [UL.out] at h ⊢
        exact h
      · have ho := (HR.out.1.on ((Below.refl _ _).alloc (Nat.le_refl _) (Obj.cells [Value.string (nmAt c (ngc : Int))].toArray 9))).own
        have hr2 := (Below.heap_alloc wr (Obj.cells [Value.string (nmAt c (ngc : Int))].toArray 9) ub lu).trans HR.out.2
        exact (G2.out.block ub (Array.getElem?_eq_some_iff.1 hr2).1 (fun e => own_ne ho hr2 (by decide) e.symm)).trans hr2
    have hie : i = 3 := by omega
    subst hie
    have HF : Hid (∃ b cap, Value.slice sv (2 + 3) cv = .slice (some ⟨b, 0, none⟩) (lineW T c ⟨4, nm, op, (nga : Int), (ngb : Int), (ngc : Int)⟩).length cap ∧ w.heap.size ≤ b ∧ WordsAt wr b (lineW T c ⟨4, nm, op, (nga : Int), (ngb : Int), (ngc : Int)⟩) ∧ Below w.heap.size w wr) := by
      have e1 : lineW T c ⟨4, nm, op, (nga : Int), (ngb : Int), (ngc : Int)⟩ = [kw 4, bl nm] ++ ul.take 3 := by
        rw [UL.out]
        simp [lineW, frontW, usedL]
      rw [e1]
      obtain ⟨b, cap, e2, hb2, hw2⟩ := own_words HR.out.1.own (by simp)
      have hx2 := SX.out
      exact ⟨b, cap, e2, by omega, hw2, BX.out.trans (HR.out.1.below.mono (by omega))⟩
    obtain ⟨b, cap, e2, hf⟩ := HF.out
    have E2 := hid e2
    clear e2 HR HF
    go_wp2
    go_ret
    exact ⟨b, cap, by rw [← E2.out]; rfl, hf⟩
end Go.Proofs.YtfmmmhcpdinhgabGreatDoor
