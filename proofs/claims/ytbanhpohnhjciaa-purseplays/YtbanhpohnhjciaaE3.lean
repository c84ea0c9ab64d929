import Derived.Test.YtbanhpohnhjciaaE2
import Derived.Test.YtbanhpohnhjciaaB1
import Derived.Deep.DeepCutAuto
import Derived.Deep.RegionHeld3
namespace Go.Proofs.Ytbanhpohnhjciaa
open Go.RowKit Go.MuLone

/-- numbers that came in. -/
structure IntsAt (w : World) (sa : Option Addr) (l : List Int) : Prop where
  at_ : ∀ k (hk : k < l.length), ∃ a, sa = some a ∧ a.block < w.heap.size ∧ w.cell? (a.add k) = some (.int .i64 l[k])
  wf : ∀ k (hk : k < l.length), -9223372036854775808 ≤ l[k] ∧ l[k] ≤ 9223372036854775807

theorem owns_touch {w w' : World} {base e size : Nat} {F : List Nat} {v : Value} {n : Nat} {xs : List Value} (h : w.ownsRow base e size v n xs) (ht : Touch F w w') (hF : ∀ x, v.ownBlock = some x → x ∉ F) : w'.ownsRow base e size v n xs := by
  refine ⟨h.1, ?_⟩
  rcases h.2 with hn | ⟨g, cap, cur, rfl, hb, hg, rest⟩
  · exact .inl hn
  · exact .inr ⟨g, cap, cur, rfl, hb, (ht.block g (lt_of_block hg) (hF g rfl)).trans hg, rest⟩

/-- the two lists of the parts. -/
structure Lists (w : World) (lo b lb : Nat) (l : List Pt) (pv hv : Value) : Prop where
  p : w.ownsRow lo 24 1 pv l.length (l.map fun x => ptr x.b)
  h : w.ownsRow lo 3 1 hv l.length (l.map fun x => .int .i64 x.n)
  pa : ∀ k, pv.ownBlock = some k → k ∉ foot b lb l ∧ hv.ownBlock ≠ some k
  ha : ∀ k, hv.ownBlock = some k → k ∉ foot b lb l

section
variable {w w' : World} {lo b lb : Nat} {l : List Pt} {pv hv : Value}
theorem Lists.touch {F : List Nat} (T : Lists w lo b lb l pv hv) (t : Touch F w w') (h : ∀ k ∈ F, k ∈ foot b lb l ∨ w.heap.size ≤ k) : Lists w' lo b lb l pv hv :=
  ⟨owns_touch T.p t fun x hx hm => by
      have h1 := T.p.lt x hx
      rcases h x hm with h2 | h2
      · exact (T.pa x hx).1 h2
      · omega,
   owns_touch T.h t fun x hx hm => by
      have h1 := T.h.lt x hx
      rcases h x hm with h2 | h2
      · exact T.ha x hx h2
      · omega, T.pa, T.ha⟩
end

/-- the loop of the parts: s the purse, l the parts, k sizes are behind. -/
structure Round1 (w : World) (lo b lb : Nat) (L : Int) (k : Nat) (s : St) (l : List Pt) (pv hv : Value) : Prop where
  tree : Tree w lo b lb L s l
  lists : Lists w lo b lb l pv hv
  few : l.length ≤ k
  fresh : ∀ x ∈ l, x.gone = false


theorem touch_grown {w w' : World} {v : Value} (hg : w.grownBy w' v.ownBlock) : Touch v.ownBlock.toList w w' :=
  (Touch.refl v.ownBlock.toList w).grown hg (fun k hk => .inl (by simp [hk]))

section
variable {w0 w5 w6 w7 : World} {lo b lb q : Nat} {L n : Int} {s : St} {l : List Pt} {pv hv : Value} {O1 O2 : Obj}

/-- between the two appends. -/
structure MidL (w : World) (lo b lb q : Nat) (L n : Int) (s : St) (l : List Pt) (pv' hv : Value) (g : Nat) : Prop where
  tree : Tree w lo b lb L s (l ++ [⟨q, n, false⟩])
  p : w.ownsRow lo 24 1 pv' (l.length + 1) ((l.map fun x => ptr x.b) ++ [ptr q])
  h : w.ownsRow lo 3 1 hv l.length (l.map fun x => .int .i64 x.n)
  gp : pv'.ownBlock = some g
  gf : g ∉ foot b lb (l ++ [⟨q, n, false⟩])
  gh : hv.ownBlock ≠ some g
  hf : ∀ k, hv.ownBlock = some k → k ∉ foot b lb (l ++ [⟨q, n, false⟩])

theorem foot_snoc (b lb : Nat) (l : List Pt) (x : Pt) (k : Nat) : k ∈ foot b lb (l ++ [x]) ↔ k ∈ foot b lb l ∨ k = x.b := by
  simp [foot, or_assoc]

theorem appA (T : Tree w5 lo b lb L s (l ++ [⟨q, n, false⟩])) (Ls : Lists w5 lo b lb l pv hv) (hq : ∀ k, pv.ownBlock = some k ∨ hv.ownBlock = some k → k ≠ q) (hB : Below lo w0 w5) (hlo : lo ≤ w5.heap.size) {g cap : Nat}
    (r1 : w6.ownsRow lo 24 1 (.slice (some ⟨g, 0, none⟩) (l.length + 1) cap) (l.length + 1) ((l.map fun x => ptr x.b) ++ [ptr q])) (r2 : (w5.alloc O1).grownBy w6 pv.ownBlock) (r3 : pv.ownBlock = some g ∨ g = (w5.alloc O1).heap.size) :
    MidL w6 lo b lb q L n s l (.slice (some ⟨g, 0, none⟩) (l.length + 1) cap) hv g ∧ Below lo w0 w6 ∧ lo ≤ w6.heap.size := by
  have tA : Touch pv.ownBlock.toList w5 w6 := ((Touch.refl pv.ownBlock.toList w5).alloc O1).trans (touch_grown r2) (fun k hk => .inl hk)
  have hsz : (w5.alloc O1).heap.size = w5.heap.size + 1 := by simp
  have hpf : ∀ k, pv.ownBlock = some k → k ∉ foot b lb (l ++ [⟨q, n, false⟩]) := fun k hk hm => by
    rcases (foot_snoc b lb l _ k).1 hm with h | h
    · exact (Ls.pa k hk).1 h
    · exact hq k (.inl hk) h
  have hhf : ∀ k, hv.ownBlock = some k → k ∉ foot b lb (l ++ [⟨q, n, false⟩]) := fun k hk hm => by
    rcases (foot_snoc b lb l _ k).1 hm with h | h
    · exact Ls.ha k hk h
    · exact hq k (.inr hk) h
  refine ⟨⟨T.touch tA (fun k hk => hpf k (by simpa using hk)), r1, owns_touch Ls.h tA (fun x hx hm => (Ls.pa x (by simpa using hm)).2 hx), rfl, fun hm => ?_, fun e => ?_, hhf⟩, hB.trans (tA.below hlo (fun k hk => (Ls.p.lt k (by simpa using hk)).1)), Nat.le_trans hlo tA.size⟩
  · rcases r3 with h | h
    · exact hpf g h hm
    · have := (T.lt g hm).1
      omega
  · rcases r3 with h | h
    · exact (Ls.pa g h).2 e
    · have := (Ls.h.lt g e).2
      omega

theorem appB {pv' : Value} {g1 : Nat} (M : MidL w6 lo b lb q L n s l pv' hv g1) (hB : Below lo w0 w6) (hlo : lo ≤ w6.heap.size) {g cap : Nat}
    (r1 : w7.ownsRow lo 3 1 (.slice (some ⟨g, 0, none⟩) (l.length + 1) cap) (l.length + 1) ((l.map fun x => Value.int .i64 x.n) ++ [.int .i64 n])) (r2 : (w6.alloc O2).grownBy w7 hv.ownBlock) (r3 : hv.ownBlock = some g ∨ g = (w6.alloc O2).heap.size) :
    Tree w7 lo b lb L s (l ++ [⟨q, n, false⟩]) ∧ Lists w7 lo b lb (l ++ [⟨q, n, false⟩]) pv' (.slice (some ⟨g, 0, none⟩) (l.length + 1) cap) ∧ Below lo w0 w7 := by
  have tB : Touch hv.ownBlock.toList w6 w7 := ((Touch.refl hv.ownBlock.toList w6).alloc O2).trans (touch_grown r2) (fun k hk => .inl hk)
  have hsz : (w6.alloc O2).heap.size = w6.heap.size + 1 := by simp
  have hp := M.p.lt g1 M.gp
  refine ⟨M.tree.touch tB (fun k hk => M.hf k (by simpa using hk)), ⟨?_, ?_, fun k hk => ?_, fun k hk hm => ?_⟩, hB.trans (tB.below hlo (fun k hk => (M.h.lt k (by simpa using hk)).1))⟩
  · have := owns_touch M.p tB (fun x hx hm => by rw [M.gp] at hx; cases hx; exact M.gh (by simpa using hm))
    simpa using this
  · simpa using r1
  · rw [M.gp] at hk
    cases hk
    refine ⟨M.gf, fun e => ?_⟩
    have e' : g = g1 := by simpa [Value.ownBlock] using e
    rcases r3 with h | h
    · exact M.gh (e' ▸ h)
    · omega
  · have e' : g = k := by simpa [Value.ownBlock] using hk
    subst e'
    rcases r3 with h | h
    · exact M.hf g h hm
    · have := (M.tree.lt g hm).1
      omega
end

section
variable {w w' : World}
theorem IntsAt.read {sa : Option Addr} {l : List Int} (h : IntsAt w sa l) {k : Nat} (hk : k < l.length) : ∃ a, sa = some a ∧ a.block < w.heap.size ∧ ∀ W, Below w.heap.size w W → W.cell? (a.add k) = some (.int .i64 l[k]) := by
  obtain ⟨a, e, hb, c⟩ := h.at_ k hk
  exact ⟨a, e, hb, fun W hW => (hW.cell (by rw [add_block]; exact hb)).trans c⟩
end
theorem part_take {n : Int} (h : 0 ≤ n) (lb b q : Nat) : leaveE (.part n lb b) n = 0 ∧ (St.part n lb b).take n = Pt.st ⟨q, n, false⟩ lb b := by
  have e : leaveE (.part n lb b) n = 0 := by simp [leaveE]; omega
  refine ⟨e, ?_⟩
  simp only [St.take, e, Pt.st]
  simp
  omega
theorem part_full (n : Int) (lb b q : Nat) : leaveE (Pt.st ⟨q, n, false⟩ lb b) 1 = 2 ∧ (Pt.st ⟨q, n, false⟩ lb b).take 1 = Pt.st ⟨q, n, false⟩ lb b := by
  have e : leaveE (Pt.st ⟨q, n, false⟩ lb b) 1 = 2 := by simp [leaveE, Pt.st]
  exact ⟨e, by simp [St.take, e]⟩
theorem part_out (n : Int) (lb b q : Nat) : (Pt.st ⟨q, n, false⟩ lb b).hand + (Pt.st ⟨q, n, false⟩ lb b).lent = n := by simp [Pt.st]
end Go.Proofs.Ytbanhpohnhjciaa
