import Derived.Deep.DeepCutAuto
import Derived.Deep.CutBlock
import Derived.Test.YtcpncfngadablaaGreatDoorZ24
/-
  The document's Mount by what it answers.
-/
namespace Go.Proofs.YtcpncfngadablaaGreatDoor
open Go.RowKit Go.Deep ShfKit
section
variable {w : World} {fv : Value} {l : List SFile} {ta : Option Addr} {tc : Nat} {tl : List TrA}
theorem rMount_no {sB B Bs : Int} {c : Nat} (h : StIn w fv l) (htl : TrsAt w ta tl) (hts : ta = none → tl = []) (htn : tl.length ≤ 1073741824) (hn : l.length ≤ 1099511627776) (hu : usedN l l.length ≤ 1099511627776) (hnl : ∀ e ∈ l, e.name.length ≤ 1099511627776) (hc : MountV sB B Bs l (some c)) :
    Calls Tryz.prog 23 #[.agg #[.int .i64 sB, fv], .agg #[.int .i64 B, .int .i64 Bs, .slice ta tl.length tc]] w fun e w' => e = .returned (.tuple #[.pointer none, .int .i64 (code c)]) ∧ Below w.heap.size w w' := by
  obtain ⟨fa, fc, hfv⟩ := h.sl
  rcases hc with ⟨h0, _⟩ | ⟨h0, h1⟩ | ⟨h0, h1, h2⟩ | ⟨h0, h1, h2, h3, h4⟩
  · cases h0
  · cases h0
    rw [hfv]
    exact rMount_bad h1
  · cases h0
    obtain ⟨b, rfl⟩ : ∃ b : Nat, B = (b : Int) := ⟨B.toNat, by have := h1.1; omega⟩
    by_cases hb : sB = (b : Int)
    · subst hb
      refine (rMount_files h h1 htl hts htn hn hu hnl).mono fun e w' hx => ⟨?_, hx.2⟩
      rcases hx.1 with ⟨_, he⟩ | ⟨hf, _⟩ | ⟨hf, _⟩
      · exact he
      · exact absurd ⟨rfl, hf⟩ h2
      · exact absurd ⟨rfl, hf⟩ h2
    · rw [hfv]
      exact rMount_other h1 htl hts htn hb
  · cases h0
    obtain ⟨b, rfl⟩ : ∃ b : Nat, B = (b : Int) := ⟨B.toNat, by have := h1.1; omega⟩
    subst h2
    refine (rMount_files h h1 htl hts htn hn hu hnl).mono fun e w' hx => ⟨?_, hx.2⟩
    rcases hx.1 with ⟨hf, _⟩ | ⟨_, _, he⟩ | ⟨_, hf, _⟩
    · exact absurd h3 hf
    · exact he
    · exact absurd hf h4
theorem rMount_go {B : Nat} {Bs : Int} (h : StIn w fv l) (htl : TrsAt w ta tl) (hts : ta = none → tl = []) (htn : tl.length ≤ 1073741824) (hn : l.length ≤ 1099511627776) (hu : usedN l l.length ≤ 1099511627776) (hnl : ∀ e ∈ l, e.name.length ≤ 1099511627776) (hc : MountV B B Bs l none) :
    Calls Tryz.prog 23 #[.agg #[.int .i64 B, fv], .agg #[.int .i64 B, .int .i64 Bs, .slice ta tl.length tc]] w fun e w' => ∃ R : RefD, e = .returned (.tuple #[.pointer (some ⟨R.p, 0, none⟩), .int .i64 0]) ∧ RefAt w' R ∧ R.trs = tl ∧ R.pub = mountA B Bs l l.length ∧ (∀ b ∈ R.foot, w.heap.size ≤ b) ∧ Below w.heap.size w w' := by
  rcases hc with ⟨_, h1, _, h3, h4⟩ | ⟨h0, _⟩ | ⟨h0, _⟩ | ⟨h0, _⟩
  · refine (rMount_files h h1 htl hts htn hn hu hnl).mono fun e w' hx => ?_
    rcases hx.1 with ⟨hf, _⟩ | ⟨_, hf, _⟩ | ⟨_, _, R, he, hr⟩
    · exact absurd h3 hf
    · exact absurd h4 hf
    · obtain ⟨r1, r2, r3, r4⟩ := hr.out
      exact ⟨R, he, r1, r2, r3, r4, hx.2⟩
  all_goals cases h0
end
end Go.Proofs.YtcpncfngadablaaGreatDoor
/-
  The two mounted disks, side by side.
-/
namespace Go.Proofs.YtcpncfngadablaaGreatDoor
open Go.RowKit Go.Deep ShfKit
theorem total_mount {l : List SFile} : total (l.map SFile.pub) = usedN l l.length := by
  unfold total usedN
  rw [List.take_length, List.map_map]
  rfl
theorem IB.mounted {B : Nat} {Bs : Int} {l : List SFile} {t : Nat} (hs : SetOk B Bs) (hg : GoodL l) (h1 : l.length ≤ t) (h2 : usedN l l.length ≤ t) : IB t (mountA B Bs l l.length) := by
  have e1 : (mountA B Bs l l.length).files = l.map SFile.pub := by simp [mountA]
  refine ⟨⟨?_, ?_⟩, ?_, ?_, ?_, ?_, ?_, ?_, ?_, ?_, ?_, ?_⟩
  · have := hs.1
    show 64 ≤ B
    omega
  · have := hs.2.1
    show B ≤ 65536
    omega
  · exact ⟨Int.le_refl _, by show (0 : Int) ≤ t; omega⟩
  · exact ⟨Int.le_refl _, by show (0 : Int) ≤ t; omega⟩
  · exact ⟨Int.le_refl _, by show (0 : Int) ≤ t; omega⟩
  · exact ⟨Int.le_refl _, by show (0 : Int) ≤ t; omega⟩
  · exact ⟨Int.le_refl _, by show (0 : Int) ≤ t; omega⟩
  · rw [e1, total_mount]
    rfl
  · exact Int.le_refl _
  · rw [e1, total_mount]
    exact h2
  · rw [e1, List.length_map]
    exact h1
  · rw [e1]
    exact List.pairwise_map.2 hg.rising
theorem Pl.mounted {w : World} {E : Nat → Addr} {lo p mf mt t : Nat} {D : DiskC} {R : RefD} {B : Nat} {Bs : Int} {l : List SFile} {tl : List TrA} (V : Env w lo E) (hr : Rep w lo p mf mt D) (hf : RefAt w R) (hd : D.pub = mountA B Bs l l.length) (hp : R.pub = mountA B Bs l l.length) (ht : TIs D.T tl) (htr : R.trs = tl) (hs : SetOk B Bs) (hg : GoodL l) (h1 : l.length ≤ t) (h2 : usedN l l.length ≤ t) (hap : ∀ b ∈ R.foot, b ∉ D.foot p mf mt) (hlo : ∀ b ∈ R.foot, lo ≤ b) (htl : tl.length ≤ 1099511627776) : Pl w E lo p mf mt t D R :=
  ⟨V, hr, hf, hd.trans hp.symm, by rw [htr]; exact ht.from _, by rw [hp]; exact IB.mounted hs hg h1 h2, hap, hlo, by rw [htr]; exact htl⟩
end Go.Proofs.YtcpncfngadablaaGreatDoor
/-
  DiskMounts: what is in hand behind the copy; the copy mounts as the state does.
-/
namespace Go.Proofs.YtcpncfngadablaaGreatDoor
open Go.RowKit Go.Deep ShfKit
set_option maxRecDepth 100000
theorem Mo.of {W1 W5 : World} {F : List Nat} {lo p7 p8 : Nat} {x : Value} {fo : Value} {m : List SFile} {va : Option Addr} {n vc : Nat} {a b : Value} {l : List TrA} (st : Fz.StateFr W1 lo fo m) (hb : Below W1.heap.size W1 W5) (hF : ∀ b, lo ≤ b → b < W1.heap.size → b ∈ F)
    (r7 : W5.heap[p7]? = some (.cells #[x, fo] 47 (0, 0))) (r8 : W5.heap[p8]? = some (.cells #[a, b, .slice va n vc] 29 (0, 0))) (hp7 : W1.heap.size ≤ p7) (ow : W5.ownsRow 0 65 3 (.slice va n vc) n (l.flatMap TrA.cells)) (how : ∀ g, (Value.slice va n vc).ownBlock = some g → g ∈ F) (hn : ∀ e ∈ m, e.file.blocks.length ≤ 1099511627776) (hbl : ∀ e ∈ m, ∀ b ∈ e.file.blocks, b.length ≤ 1099511627776) : Mo W5 F p7 p8 fo m.length va n vc := by
  refine ⟨cell_row r7 1, cell_row r8 2, row_slice st.own, fun i hi => ?_, fun i hi => ?_⟩
  · obtain ⟨G, hG, _, kf, lG, _⟩ := own_over ow hi
    subst hG
    refine ⟨G, rfl, how G rfl, fun j hj => ⟨?_, kf _⟩⟩
    have hll : (l.flatMap TrA.cells).length = n * 3 := ow.1
    obtain ⟨u, hu⟩ : ∃ u, (l.flatMap TrA.cells)[i * 3 + j]? = some u := ⟨_, List.getElem?_eq_getElem (by omega)⟩
    obtain ⟨t, _, ht⟩ := List.mem_flatMap.1 (List.mem_of_getElem? hu)
    obtain ⟨g, c, e1, _, _, hc, _⟩ := own_cell ow hu
    simp only [Value.slice.injEq, Option.some.injEq, Addr.mk.injEq, true_and, and_true] at e1
    obtain ⟨rfl, _⟩ := e1
    simp only [TrA.cells, List.mem_cons, List.not_mem_nil, or_false] at ht
    rcases ht with rfl | rfl | rfl
    · exact ⟨_, hc⟩
    · exact ⟨_, hc⟩
    · exact ⟨_, hc⟩
  · obtain ⟨G, gc, hv, hlo, hG⟩ := row_form st.own (by omega)
    obtain ⟨c0, c1, c2⟩ := row_cells st.own hv hi
    have hfz : ∀ j, W5.frozen? ⟨G, j, none⟩ = false := fun j => by
      rcases st.own.2 with ⟨e', _⟩ | ⟨g', cap, cur, e', _, hr, _⟩
      · rw [hv] at e'
        cases e'
      · rw [hv] at e'
        simp only [Value.slice.injEq, Option.some.injEq, Addr.mk.injEq] at e'
        obtain ⟨⟨rfl, _⟩, _⟩ := e'
        exact unfrozen_row ((hb.block _ hG).trans hr) j
    have hm := List.getElem_mem hi
    have up : ∀ (j : Nat) (u : Value), W1.cell? ⟨G, j, none⟩ = some u → W5.cell? ⟨G, j, none⟩ = some u := fun j u hu => (hb.cell (p := ⟨G, j, none⟩) hG).trans hu
    refine ⟨G, gc, _, _, _, m[i].file.blocks.length, hv, hF G hlo hG, by omega, up _ _ c0, up _ _ c1, up _ _ c2, hfz _, hfz _, hn _ hm, (st.each _ hm).sl, fun k hk => ?_⟩
    obtain ⟨H, hc, ad, xn, xc, e1, _, l2, ⟨kc, kz, k1⟩, ⟨cs, fz, hr, hN0, hNz⟩, cl, sh⟩ := (st.each _ hm).at_ k hk
    obtain ⟨g, hg⟩ : ∃ g, g = ad.block := ⟨_, rfl⟩
    rw [hN0] at cl sh
    rw [← hg] at cl sh hr l2
    have lg := lt_of_block hr
    refine ⟨H, hc, g, xn, xc, cs, fz, _, e1, (hb.cell (p := ⟨H, k, none⟩) (lt_of_block k1)).trans cl, (hb.block _ lg).trans hr, hNz, sh.touch (Touch.of_below (F := []) hb (Nat.le_refl _)) (by simp), hF g l2 lg, ?_⟩
    rw [← sh.len]
    exact hbl _ hm _ (List.getElem_mem hk)
section
variable {m l : List SFile}
theorem pubm_at (h : m.map SFile.pub = l.map SFile.pub) (j : Nat) : (m[j]?).map SFile.pub = (l[j]?).map SFile.pub := by
  have := congrArg (fun z => z[j]?) h
  simpa using this
theorem lastN_pub (h : m.map SFile.pub = l.map SFile.pub) (j : Nat) : lastN m j = lastN l j := by
  cases j with
  | zero => rfl
  | succ j =>
    have h1 := pubm_at h j
    simp only [lastN]
    cases hm : m[j]? with
    | none =>
      rw [hm] at h1
      cases hl : l[j]? with
      | none => rfl
      | some y => rw [hl] at h1; cases h1
    | some x =>
      rw [hm] at h1
      cases hl : l[j]? with
      | none => rw [hl] at h1; cases h1
      | some y =>
        rw [hl] at h1
        simp only [Option.map_some, Option.some.injEq, SFile.pub, Prod.mk.injEq] at h1
        simp [h1.1]
theorem usedN_pub (h : m.map SFile.pub = l.map SFile.pub) (k : Nat) : usedN m k = usedN l k := by
  have e : ∀ z : List SFile, usedN z k = (((z.map SFile.pub).take k).map fun p => p.2.blocks.length).sum := fun z => by
    unfold usedN
    rw [← List.map_take, List.map_map]
    rfl
  rw [e, e, h]
theorem FilesOk.pub {B : Int} {k : Nat} (h : m.map SFile.pub = l.map SFile.pub) (hf : FilesOk B l k) : FilesOk B m k := fun j e hj he => by
  have h1 := pubm_at h j
  rw [he] at h1
  cases hl : l[j]? with
  | none => rw [hl] at h1; cases h1
  | some y =>
    rw [hl] at h1
    simp only [Option.map_some, Option.some.injEq, SFile.pub, Prod.mk.injEq] at h1
    have h2 := hf j y hj hl
    rw [lastN_pub h, h1.1, h1.2]
    exact h2
theorem MountV.pub {sB B Bs : Int} {c : Option Nat} (h : m.map SFile.pub = l.map SFile.pub) (hv : MountV sB B Bs l c) : MountV sB B Bs m c := by
  have hl : m.length = l.length := by simpa using congrArg List.length h
  have hu : usedN m m.length = usedN l l.length := by rw [hl, usedN_pub h]
  have hf : FilesOk B m m.length ↔ FilesOk B l l.length := by
    rw [hl]
    exact ⟨fun x => FilesOk.pub h.symm x, fun x => FilesOk.pub h x⟩
  unfold MountV at hv ⊢
  rw [hf, hu]
  exact hv
theorem MountV.ex (sB B Bs : Int) (l : List SFile) : ∃ c, MountV sB B Bs l c := by
  by_cases h1 : SetOk B Bs
  · by_cases h2 : sB = B ∧ FilesOk B l l.length
    · by_cases h3 : (usedN l l.length : Int) ≤ Bs
      · exact ⟨_, .inl ⟨rfl, h1, h2.1, h2.2, h3⟩⟩
      · exact ⟨_, .inr (.inr (.inr ⟨rfl, h1, h2.1, h2.2, h3⟩))⟩
    · exact ⟨_, .inr (.inr (.inl ⟨rfl, h1, h2⟩))⟩
  · exact ⟨_, .inr (.inl ⟨rfl, h1⟩)⟩
theorem mountA_pub {B : Nat} {Bs : Int} (h : m.map SFile.pub = l.map SFile.pub) : mountA B Bs m m.length = mountA B Bs l l.length := by
  have hl : m.length = l.length := by simpa using congrArg List.length h
  unfold mountA
  rw [hl, usedN_pub h, ← hl, List.take_length, hl, List.take_length, h]
end
end Go.Proofs.YtcpncfngadablaaGreatDoor
/-
  DiskMounts: the law.
-/
namespace Go.Proofs.YtcpncfngadablaaGreatDoor
open Go.RowKit Go.Deep ShfKit
set_option maxRecDepth 100000
/-- behind the copy and the list of troubles. -/
structure Mi (w Wa w1 Wc : World) (sB B Bs : Value) (fv fo : Value) (m : List SFile) (sa va : Option Addr) (n ca vc : Nat) (l : List TrA) : Prop where
  low : Below w.heap.size w Wc
  st : Fz.StateFr w1 Wa.heap.size fo m
  up : Below w1.heap.size w1 Wc
  r0 : Wc.heap[w.heap.size]? = some (.cells #[sB, fv] 47 (0, 0))
  r1 : Wc.heap[w.heap.size + 1]? = some (.cells #[B, Bs, .slice sa n ca] 29 (0, 0))
  r7 : Wc.heap[w1.heap.size]? = some (.cells #[sB, fo] 47 (0, 0))
  r8 : Wc.heap[w1.heap.size + 1]? = some (.cells #[B, Bs, .slice va n vc] 29 (0, 0))
  own : Wc.ownsRow w1.heap.size 65 3 (.slice va n vc) n (l.flatMap TrA.cells)
  trs : TrsAt Wc va l
theorem Mi.mo {w Wa w1 Wc W6 : World} {sB B Bs fv fo : Value} {m : List SFile} {sa va : Option Addr} {n ca vc : Nat} {l : List TrA} (h : Mi w Wa w1 Wc sB B Bs fv fo m sa va n ca vc l) (hb : Below Wc.heap.size Wc W6) (hwa : w.heap.size ≤ Wa.heap.size) (h1 : Wa.heap.size ≤ w1.heap.size) (hn : ∀ e ∈ m, e.file.blocks.length ≤ 1099511627776) (hbl : ∀ e ∈ m, ∀ b ∈ e.file.blocks, b.length ≤ 1099511627776) : Mo W6 (List.range' w.heap.size (Wc.heap.size - w.heap.size)) w1.heap.size (w1.heap.size + 1) fo m.length va n vc := by
  have z1 := h.up.size
  have b6 : Below w1.heap.size w1 W6 := h.up.trans (hb.mono z1)
  have o6 : W6.ownsRow 0 65 3 (.slice va n vc) n (l.flatMap TrA.cells) := own_base (own_kept h.own fun g hg => hb.block g (own_block h.own hg).2) (Nat.zero_le _)
  refine Mo.of h.st b6 (fun b h1 h2 => List.mem_range'_1.2 ⟨by omega, by omega⟩) ((hb.block _ (lt_of_block h.r7)).trans h.r7) ((hb.block _ (lt_of_block h.r8)).trans h.r8) (Nat.le_refl _) o6 (fun g hg => List.mem_range'_1.2 ?_) hn hbl
  have := own_block h.own hg
  exact ⟨by omega, by omega⟩
set_option maxHeartbeats 16000000 in
theorem diskMounts_law {w : World} {E : Nat → Addr} (V : Env w w.heap.size E) (sB B Bs : Int) {fv : Value} {fl : List SFile} (hS : StIn w fv fl) {t : Nat} (h1 : fl.length ≤ t) (h2 : usedN fl fl.length ≤ t) (hnl : ∀ e ∈ fl, e.name.length ≤ 1099511627776) (hbl : ∀ e ∈ fl, ∀ b ∈ e.file.blocks, b.length ≤ 1099511627776) {sa : Option Addr} {ca : Nat} {l : List TrA} (hT : TrsAt w sa l) (hs : sa = none → l = []) (hl : l.length ≤ 1073741824) {so : Option Addr} {co : Nat} {ops : List OpA} (hO : OpsAt w so ops) (hnm : ∀ o ∈ ops, o.name.size ≤ 1099511627776) (hlen : t + ops.length ≤ 1048576) :
    Calls Tryz.prog 5 #[.agg #[.int .i64 sB, fv], .agg #[.int .i64 B, .int .i64 Bs, .slice sa l.length ca], .slice so ops.length co] w fun e w' => e = .returned (.bool true) ∧ Below w.heap.size w w' := by
  obtain ⟨n, hn⟩ : ∃ n, n = l.length := ⟨_, rfl⟩
  obtain ⟨fa, fc, hfv⟩ := hS.sl
  obtain ⟨L, hLL⟩ : ∃ L, L = fl.length := ⟨_, rfl⟩
  rw [← hLL] at hfv
  have hnb : ∀ e ∈ fl, e.file.blocks.length ≤ 1099511627776 := fun e he => by
    obtain ⟨k, hk⟩ := List.getElem?_of_mem he
    have h3 : usedN fl (k + 1) ≤ usedN fl fl.length := by
      unfold usedN
      rw [List.take_length]
      have h4 : fl.map (fun e => e.file.blocks.length) = (fl.take (k + 1)).map (fun e => e.file.blocks.length) ++ (fl.drop (k + 1)).map (fun e => e.file.blocks.length) := by rw [← List.map_append, List.take_append_drop]
      rw [h4, List.sum_append]
      omega
    have h5 := usedN_succ hk
    omega
  obtain ⟨Wa, hWa⟩ : ∃ Wa, Wa = (w.alloc (.cells #[.int .i64 sB, .slice fa L fc] 47)).alloc (.cells #[.int .i64 B, .int .i64 Bs, .slice sa n ca] 29) := ⟨_, rfl⟩
  have bWa : Below w.heap.size w Wa := by rw [hWa]; exact ((Below.refl _ w).alloc (Nat.le_refl _) _).alloc (by simp) _
  have rows := heap_two w (.cells #[.int .i64 sB, .slice fa L fc] 47) (.cells #[.int .i64 B, .int .i64 Bs, .slice sa n ca] 29)
  rw [← hWa] at rows
  have zWa : Wa.heap.size = w.heap.size + 2 := by rw [hWa]; simp
  have COPY := hid (Fz.CopyIn_any (x := sB) (hS.below bWa) (by omega) hnb)
  rw [hfv] at COPY
  have ENV : Hid (∀ W, Below w.heap.size w W → Env W w.heap.size E) := fun W hb => V.touch (Touch.of_below (F := []) hb (Nat.le_refl _)) (by simp)
  have SIN : Hid (∀ W, Below w.heap.size w W → StIn W (.slice fa L fc) fl) := fun W hb => by rw [← hfv]; exact hS.below hb
  have TRS : Hid (∀ W, Below w.heap.size w W → TrsAt W sa l) := fun W hb => hT.below hb
  /- behind the copy of the troubles -/
  have REST : Hid (∀ (w1 : World) (fo : Value) (m : List SFile), Below Wa.heap.size Wa w1 → Fz.StateFr w1 Wa.heap.size fo m → ∀ (Wb W3 : World), Wb = (w1.alloc (.cells #[.int .i64 sB, fo] 47)).alloc (.cells #[.int .i64 B, .int .i64 Bs, .slice sa n ca] 29) → ∀ (va : Option Addr) (vc : Nat), Below Wb.heap.size Wb W3 → W3.ownsRow Wb.heap.size 65 3 (.slice va n vc) n (l.flatMap TrA.cells) → ∃ Wc, Wc = W3.setCell ⟨w1.heap.size + 1, 2, none⟩ (.slice va n vc) ∧ Mi w Wa w1 Wc (.int .i64 sB) (.int .i64 B) (.int .i64 Bs) (.slice fa L fc) fo m sa va n ca vc l) := fun w1 fo m hb1 hst Wb W3 hWb va vc hb ho => by
    have rb := heap_two w1 (.cells #[.int .i64 sB, fo] 47) (.cells #[.int .i64 B, .int .i64 Bs, .slice sa n ca] 29)
    rw [← hWb] at rb
    have bb : Below w1.heap.size w1 Wb := by rw [hWb]; exact ((Below.refl _ w1).alloc (Nat.le_refl _) _).alloc (by simp) _
    have zb : Wb.heap.size = w1.heap.size + 2 := by rw [hWb]; simp
    have z3 := hb.size
    have z1 := hb1.size
    have b3 : Below w1.heap.size w1 W3 := bb.trans (hb.mono (by omega))
    have bc : Below w1.heap.size w1 (W3.setCell ⟨w1.heap.size + 1, 2, none⟩ (.slice va n vc)) := b3.setCell (by show _ ≤ w1.heap.size + 1; omega) _
    have ba : Below w.heap.size w w1 := bWa.trans (hb1.mono (by omega))
    have r7 := (hb.block _ (lt_of_block rb.1)).trans rb.1
    have r8 := (hb.block _ (lt_of_block rb.2)).trans rb.2
    have ho2 : (W3.setCell ⟨w1.heap.size + 1, 2, none⟩ (.slice va n vc)).ownsRow Wb.heap.size 65 3 (.slice va n vc) n (l.flatMap TrA.cells) := own_kept ho fun g hg => Below.heap_setCell _ _ _ _ (by have := (own_block ho hg).1; show g ≠ w1.heap.size + 1; omega)
    refine ⟨_, rfl, ba.trans (bc.mono (by omega)), hst, bc, ?_, ?_, (Below.heap_setCell _ _ _ _ (by simp)).trans r7, ?_, own_base ho2 (by omega), ?_⟩
    · exact (bc.block _ (by omega)).trans ((hb1.block _ (lt_of_block rows.1)).trans rows.1)
    · exact (bc.block _ (by omega)).trans ((hb1.block _ (lt_of_block rows.2)).trans rows.2)
    · rw [heap_setCell_row r8 2]
      rfl
    · rw [hn] at ho2
      obtain ⟨sa', c', e1, e2, _⟩ := trs_own ho2 hT.wf
      simp only [Value.slice.injEq] at e1
      obtain ⟨rfl, _⟩ := e1
      rw [← hn] at e2
      exact e2
  have TC : Hid (∀ w1, Below w.heap.size w w1 → ∀ a, sa = some a → ∀ (j : Nat) (u : Value), (l.flatMap TrA.cells)[j]? = some u → w1.cell? (a.add j) = some u) := fun w1 hb a ha j u hj => by
    subst ha
    exact (hT.below hb).cells j u hj
  have HN := hid hn
  have HROW := hid rows
  have HWa := hid hWa
  have HZ := hid zWa
  have HO := hid hO
  have HNM := hid hnm
  have HBA := hid bWa
  have HSN := hid hs
  have HLL := hid hLL
  have HNB := hid hnb
  have HBL := hid hbl
  have HNL := hid hnl
  have s0 := cell_row rows.1 0
  have s1 := cell_row rows.1 1
  have i0 := cell_row rows.2 0
  have i1 := cell_row rows.2 1
  have i2 := cell_row rows.2 2
  simp at s0 s1 i0 i1 i2
  rw [← hn] at hl ⊢
  rw [hfv]
  obtain ⟨cc, hMV⟩ := MountV.ex sB B Bs fl
  have HMV := hid hMV
  clear hn hWa bWa rows zWa hO hnm hT hs V hfv hS hLL hnb hbl hnl hMV
  cases sa with
  | none =>
    cases cc with
    | none =>
      obtain ⟨hso, hsb, hfo⟩ : SetOk B Bs ∧ sB = B ∧ FilesOk B fl fl.length := by
        rcases HMV.out with ⟨_, a1, a2, a3, _⟩ | ⟨h, _⟩ | ⟨h, _⟩ | ⟨h, _⟩
        · exact ⟨a1, a2, a3⟩
        all_goals cases h
      subst hsb
      obtain ⟨Bn, hBn⟩ : ∃ b : Nat, sB = (b : Int) := ⟨sB.toNat, by have := hso.1; omega⟩
      subst hBn
      have HSO := hid hso
      have HGL := hid (FilesOk.good hfo (by omega) (by omega)).1
      clear hso hfo
      have MNT : Hid (∀ (w1 Wc : World) (fo : Value) (m : List SFile) (va : Option Addr) (vc : Nat), m.map SFile.pub = fl.map SFile.pub → Mi w Wa w1 Wc (.int .i64 Bn) (.int .i64 Bn) (.int .i64 Bs) (.slice fa L fc) fo m none va n ca vc l → Calls Tryz.prog 22 #[.agg #[.int .i64 Bn, fo], .agg #[.int .i64 Bn, .int .i64 Bs, .slice va n vc]] Wc fun e w4 => ∃ p mf mt D, e = .returned (.tuple #[ptr p, .int .i64 0]) ∧ Rep w4 Wc.heap.size p mf mt D ∧ D.pub = mountA Bn Bs fl fl.length ∧ TIs D.T l ∧ Below Wc.heap.size Wc w4) := fun w1 Wc fo m va vc hp hi => by
        have hml : m.length = fl.length := by simpa using congrArg List.length hp
        have e9 := HN.out
        have hin : StIn Wc fo m := hi.st.sh.in_.below hi.up
        have r := Mount_go (B := Bn) (Bs := Bs) (tc := vc) (ENV.out Wc hi.low) hin hi.trs (by omega) (by omega) (by rw [hml, usedN_pub hp]; omega) (MountV.pub hp HMV.out)
        rw [← e9, mountA_pub hp] at r
        exact r
      have RMNT : Hid (∀ W, Below w.heap.size w W → Calls Tryz.prog 23 #[.agg #[.int .i64 Bn, .slice fa L fc], .agg #[.int .i64 Bn, .int .i64 Bs, .slice none n ca]] W fun e w' => ∃ R : RefD, e = .returned (.tuple #[.pointer (some ⟨R.p, 0, none⟩), .int .i64 0]) ∧ RefAt w' R ∧ R.trs = l ∧ R.pub = mountA Bn Bs fl fl.length ∧ (∀ b ∈ R.foot, W.heap.size ≤ b) ∧ Below W.heap.size W w') := fun W hb => by
        have e9 := HN.out
        have r := rMount_go (B := Bn) (Bs := Bs) (tc := ca) (SIN.out W hb) (TRS.out W hb) HSN.out (by omega) (by omega) (by omega) HNL.out HMV.out
        rw [← e9] at r
        exact r
      have SAME : Hid (∀ (w1 Wc : World) (fo : Value) (m : List SFile) (va : Option Addr) (vc : Nat), m.map SFile.pub = fl.map SFile.pub → Mi w Wa w1 Wc (.int .i64 Bn) (.int .i64 Bn) (.int .i64 Bs) (.slice fa L fc) fo m none va n ca vc l → ∀ W, Below Wc.heap.size Wc W → Calls Tryz.prog 17 #[.agg #[.int .i64 Bn, fo], .agg #[.int .i64 Bn, .slice fa L fc]] W fun e w' => e = .returned (.bool true) ∧ Below W.heap.size W w') := fun w1 Wc fo m va vc hp hi W hb => by
        have hml : m.length = fl.length := by simpa using congrArg List.length hp
        have z1 := hi.up.size
        have z2 := hi.low.size
        refine SameState_in (hi.st.sh.in_.below (hi.up.trans (hb.mono z1))) (SIN.out W (hi.low.trans (hb.mono z2))) hp (by omega) (fun e he => ?_)
        obtain ⟨k, hk⟩ := List.getElem?_of_mem he
        have h3 := pubm_at hp k
        rw [hk] at h3
        cases hx : fl[k]? with
        | none => rw [hx] at h3; cases h3
        | some y =>
          rw [hx] at h3
          simp only [Option.map_some, Option.some.injEq, SFile.pub, Prod.mk.injEq] at h3
          rw [h3.2]
          exact HNB.out y (List.mem_of_getElem? hx)
      have HL0 : Hid (l = []) := HSN.out rfl
      have n0 : n = 0 := by have h1 := HN.out; have h2 := HSN.out rfl; rw [h2] at h1; exact h1
      subst n0
      go_enter Tryz.func5, Tryz.ntmps5
      go_upto_region 3 with ((rw [← HWa.out]; go_at_call 13; refine COPY.out.mono ?_; rintro e w1 ⟨fo, m, rfl, h11, h12, h13⟩; obtain ⟨ga, gc, rfl⟩ := row_slice h11.own; have ST := hid h11; have PB := hid h12; have B1 := hid h13; clear h11 h12 h13; have rr := (B1.out.block _ (lt_of_block HROW.out.2)).trans HROW.out.2; have x0 := cell_row rr 0; have x1 := cell_row rr 1; have x2 := cell_row rr 2; simp at x0 x1 x2; have lw1 := lt_of_block rr; clear rr; obtain ⟨Wb, hWb⟩ : ∃ Wb, Wb = (w1.alloc (.cells #[.int .i64 Bn, .slice ga m.length gc] 47)).alloc (.cells #[.int .i64 Bn, .int .i64 Bs, .slice none 0 ca] 29) := ⟨_, rfl⟩; have WB := hid hWb; have LWB : Hid (Below w.heap.size w Wb) := (by rw [hWb]; have z9 := HBA.out.size; exact (((HBA.out.trans (B1.out.mono z9)).alloc (Nat.le_trans z9 B1.out.size) _).alloc (by have := B1.out.size; simp; omega) _)); clear hWb))
      rw [← WB.out]
      have RB := hid (heap_two w1 (.cells #[.int .i64 Bn, .slice ga m.length gc] 47) (.cells #[.int .i64 Bn, .int .i64 Bs, .slice none 0 ca] 29))
      rw [← WB.out] at RB
      have bb : Below w1.heap.size w1 Wb := by rw [WB.out]; exact ((Below.refl _ w1).alloc (Nat.le_refl _) _).alloc (by simp) _
      have o2 := (bb.cell (p := ⟨w.heap.size + 1, 2, none⟩) lw1).trans x2
      have k2 := cell_row RB.out.2 2
      have kf2 := unfrozen_row RB.out.2 2
      simp at k2
      clear x0 x1 x2 bb
      go_upto_region 4 with ((have q := WB; clear q; at_builtin; refine wpl_none rfl _ _ 27 rfl 65 _ 3 24 Tryz.underlying27 Tryz.info65 none 0 0 ca rfl rfl (Nat.le_refl _) ?_; obtain ⟨Wc, hWc, xi⟩ := REST.out w1 _ m B1.out ST.out Wb Wb WB.out none 0 (Below.refl _ _) (by rw [HL0.out]; exact World.ownsRow_nil _ _ _ _); have XI := hid xi; have HWC := hid hWc; have MI := XI; clear xi hWc))
      rw [← HWC.out]
      have a0 := cell_row MI.out.r7 0
      have a1 := cell_row MI.out.r7 1
      have b0 := cell_row MI.out.r8 0
      have b1 := cell_row MI.out.r8 1
      have b2 := cell_row MI.out.r8 2
      simp at a0 a1 b0 b1 b2
      go_upto_region 5 with ((have q := MI; clear q; go_at_call 22; refine (MNT.out _ _ _ _ _ _ PB.out MI.out).mono ?_; rintro e w4 ⟨dp, mf, mt, D, rfl, h41, h42, h43, h44⟩; have D4 := hid (And.intro h41 (And.intro h42 h43)); have B4 := hid h44; clear h41 h42 h43 h44; have K4 := hid (And.intro ((B4.out.block _ (lt_of_block MI.out.r7)).trans MI.out.r7) ((B4.out.block _ (lt_of_block MI.out.r0)).trans MI.out.r0)); have K41 := (B4.out.block _ (lt_of_block MI.out.r1)).trans MI.out.r1; have LW4 : Hid (Below w.heap.size w w4) := MI.out.low.trans (B4.out.mono MI.out.low.size); have t0 := cell_row K4.out.2 0; have t1 := cell_row K4.out.2 1; have v0 := cell_row K41 0; have v1 := cell_row K41 1; have v2 := cell_row K41 2; simp at t0 t1 v0 v1 v2))
      go_upto_region 6 with ((have q := B4; clear q; go_at_call 23; refine (RMNT.out _ LW4.out).mono ?_; rintro e w5 ⟨R, rfl, h51, h52, h53, h54, h55⟩; have R5 := hid (And.intro h51 (And.intro h52 (And.intro h53 h54))); have B5 := hid h55; clear h51 h52 h53 h54 h55; have K5 := hid ((B5.out.block _ (lt_of_block K4.out.1)).trans K4.out.1); have K6 := hid ((B5.out.block _ (lt_of_block K4.out.2)).trans K4.out.2); have y0 := cell_row K5.out 0; have y1 := cell_row K5.out 1; have z0 := cell_row K6.out 0; have z1 := cell_row K6.out 1; simp at y0 y1 z0 z1))
      rename (∀ (a : Act) (w_1 : World), Code.wp Tryz.prog ((Tryz.f5.body.bind (tailM 8)).getD .skip) (bodyPost Tryz.prog Tryz.f5 (fun e w' => e = .returned (.bool true) ∧ Below w.heap.size w w')) a w_1 → _) => hh
      have HT := hid hh
      clear hh
      have ARM17 : Hid (Below Wc.heap.size Wc w5) := B4.out.trans (B5.out.mono B4.out.size)
      go_wp2_with ((have q := ARM17; clear q; go_at_call 17; refine (SAME.out _ _ _ _ _ _ PB.out MI.out _ ARM17.out).mono ?_; rintro e w6 ⟨rfl, h6⟩; have B6 := hid h6; clear h6))
      refine HT.out _ _ ?_
      have B46 : Hid (Below Wc.heap.size Wc w6) := ARM17.out.trans (B6.out.mono ARM17.out.size)
      have z1 := MI.out.up.size
      have zl := MI.out.low.size
      have z6 := B46.out.size
      have hml : m.length = fl.length := by simpa using congrArg List.length PB.out
      have LK : Hid (∀ W, Likw (List.range' w.heap.size (Wc.heap.size - w.heap.size)) w6 W → Below w.heap.size w W) := fun W hw => MI.out.low.trans ((B46.out.mono zl).trans (hw.touch.below (by omega) (fun b hb => (List.mem_range'_1.1 hb).1)))
      have EACH : ∀ e ∈ m, ∃ y ∈ fl, e.file = y.file := fun e he => by
        obtain ⟨k, hk⟩ := List.getElem?_of_mem he
        have h3 := pubm_at PB.out k
        rw [hk] at h3
        cases hx : fl[k]? with
        | none => rw [hx] at h3; cases h3
        | some y =>
          rw [hx] at h3
          simp only [Option.map_some, Option.some.injEq, SFile.pub, Prod.mk.injEq] at h3
          exact ⟨y, List.mem_of_getElem? hx, h3.2⟩
      have MO := MI.out.mo B46.out (by have := HZ.out; omega) B1.out.size (fun e he => by obtain ⟨y, hy, e9⟩ := EACH e he; rw [e9]; exact HNB.out y hy) (fun e he => by obtain ⟨y, hy, e9⟩ := EACH e he; rw [e9]; exact HBL.out y hy)
      have e9 := HN.out
      refine mounts_tail MO (by omega) (by omega) (.inr ⟨_, rfl, fun W hw => ?_⟩) LK.out _ _ _ _ _ _ _ _ _ _ _ _ _ _ _ _ _ _ _ _ _ _ _ _ _ _ _ _ _ _ _ _ _ _ _ _ _ _ _ _ _ _ _ _ _ _ _ _ _ _ _ _ _ _ _ _ _ _ _ _ _ _ _ _ _ _ _ _ _ _ _ _ _ _ _ _ _ _ _ _ _ _ _ _ _ _ _ _ _ _ _ _ _ _ _ _ _ _ _ _ _ _ _ _ _ _ _ _ _ _ _ _
      have hD : ∀ b ∈ D.foot dp mf mt, Wc.heap.size ≤ b ∧ b < w4.heap.size := fun b hb => ⟨D4.out.1.base b hb, D4.out.1.lt b hb⟩
      have z4 := B4.out.size
      have b56 : Below w5.heap.size w5 w6 := B6.out
      have PL : Pl W E w.heap.size dp mf mt t D R := by
        refine Pl.mounted (ENV.out W (LK.out W hw)) ?_ ?_ D4.out.2.1 R5.out.2.2.1 D4.out.2.2 R5.out.2.1 HSO.out HGL.out h1 h2 (fun b hb hm => ?_) (fun b hb => ?_) (by omega)
        · refine ((((D4.out.1.touch (Touch.of_below (F := []) B5.out (Nat.le_refl _)) (by simp)).touch (Touch.of_below (F := []) b56 (Nat.le_refl _)) (by simp)).touch hw.touch (fun b hb hm => ?_)).lower (by omega))
          have g1 := List.mem_range'_1.1 hm
          have g2 := hD b hb
          omega
        · refine (R5.out.1.touch (Touch.of_below (F := []) b56 (Nat.le_refl _)) (by simp)).touch hw.touch (fun b hb hm => ?_)
          have g1 := List.mem_range'_1.1 hm
          have g2 := R5.out.2.2.2 b hb
          omega
        · have g1 := R5.out.2.2.2 b hb
          have g2 := hD b hm
          omega
        · have g1 := R5.out.2.2.2 b hb
          omega
      refine (plays_any (ca := co) PL rfl HO.out (LK.out W hw) HNM.out (by omega)).mono fun e w' h9 => ⟨h9.1, (LK.out W hw).trans h9.2⟩
    | some cc =>
      have MNT : Hid (∀ (w1 Wc : World) (fo : Value) (m : List SFile) (va : Option Addr) (vc : Nat), m.map SFile.pub = fl.map SFile.pub → Mi w Wa w1 Wc (.int .i64 sB) (.int .i64 B) (.int .i64 Bs) (.slice fa L fc) fo m none va n ca vc l → Calls Tryz.prog 22 #[.agg #[.int .i64 sB, fo], .agg #[.int .i64 B, .int .i64 Bs, .slice va n vc]] Wc fun e w4 => e = .returned (.tuple #[.pointer none, .int .i64 (code cc)]) ∧ Below Wc.heap.size Wc w4) := fun w1 Wc fo m va vc hp hi => by
        have hml : m.length = fl.length := by simpa using congrArg List.length hp
        have hin : StIn Wc fo m := hi.st.sh.in_.below hi.up
        exact Mount_no (ENV.out Wc hi.low) hin (by omega) (by rw [hml, usedN_pub hp]; omega) (MountV.pub hp HMV.out)
      have RMNT : Hid (∀ W, Below w.heap.size w W → Calls Tryz.prog 23 #[.agg #[.int .i64 sB, .slice fa L fc], .agg #[.int .i64 B, .int .i64 Bs, .slice none n ca]] W fun e w' => e = .returned (.tuple #[.pointer none, .int .i64 (code cc)]) ∧ Below W.heap.size W w') := fun W hb => by
        have e9 := HN.out
        have r := rMount_no (tc := ca) (SIN.out W hb) (TRS.out W hb) HSN.out (by omega) (by omega) (by omega) HNL.out HMV.out
        rw [← e9] at r
        exact r
      have SAME : Hid (∀ (w1 Wc : World) (fo : Value) (m : List SFile) (va : Option Addr) (vc : Nat), m.map SFile.pub = fl.map SFile.pub → Mi w Wa w1 Wc (.int .i64 sB) (.int .i64 B) (.int .i64 Bs) (.slice fa L fc) fo m none va n ca vc l → ∀ W, Below Wc.heap.size Wc W → Calls Tryz.prog 17 #[.agg #[.int .i64 sB, fo], .agg #[.int .i64 sB, .slice fa L fc]] W fun e w' => e = .returned (.bool true) ∧ Below W.heap.size W w') := fun w1 Wc fo m va vc hp hi W hb => by
        have hml : m.length = fl.length := by simpa using congrArg List.length hp
        have z1 := hi.up.size
        have z2 := hi.low.size
        refine SameState_in (hi.st.sh.in_.below (hi.up.trans (hb.mono z1))) (SIN.out W (hi.low.trans (hb.mono z2))) hp (by omega) (fun e he => ?_)
        obtain ⟨k, hk⟩ := List.getElem?_of_mem he
        have h3 := pubm_at hp k
        rw [hk] at h3
        cases hx : fl[k]? with
        | none => rw [hx] at h3; cases h3
        | some y =>
          rw [hx] at h3
          simp only [Option.map_some, Option.some.injEq, SFile.pub, Prod.mk.injEq] at h3
          rw [h3.2]
          exact HNB.out y (List.mem_of_getElem? hx)
      have HL0 : Hid (l = []) := HSN.out rfl
      have n0 : n = 0 := by have h1 := HN.out; have h2 := HSN.out rfl; rw [h2] at h1; exact h1
      subst n0
      go_enter Tryz.func5, Tryz.ntmps5
      go_upto_region 3 with ((rw [← HWa.out]; go_at_call 13; refine COPY.out.mono ?_; rintro e w1 ⟨fo, m, rfl, h11, h12, h13⟩; obtain ⟨ga, gc, rfl⟩ := row_slice h11.own; have ST := hid h11; have PB := hid h12; have B1 := hid h13; clear h11 h12 h13; have rr := (B1.out.block _ (lt_of_block HROW.out.2)).trans HROW.out.2; have x0 := cell_row rr 0; have x1 := cell_row rr 1; have x2 := cell_row rr 2; simp at x0 x1 x2; have lw1 := lt_of_block rr; clear rr; obtain ⟨Wb, hWb⟩ : ∃ Wb, Wb = (w1.alloc (.cells #[.int .i64 sB, .slice ga m.length gc] 47)).alloc (.cells #[.int .i64 B, .int .i64 Bs, .slice none 0 ca] 29) := ⟨_, rfl⟩; have WB := hid hWb; have LWB : Hid (Below w.heap.size w Wb) := (by rw [hWb]; have z9 := HBA.out.size; exact (((HBA.out.trans (B1.out.mono z9)).alloc (Nat.le_trans z9 B1.out.size) _).alloc (by have := B1.out.size; simp; omega) _)); clear hWb))
      rw [← WB.out]
      have RB := hid (heap_two w1 (.cells #[.int .i64 sB, .slice ga m.length gc] 47) (.cells #[.int .i64 B, .int .i64 Bs, .slice none 0 ca] 29))
      rw [← WB.out] at RB
      have bb : Below w1.heap.size w1 Wb := by rw [WB.out]; exact ((Below.refl _ w1).alloc (Nat.le_refl _) _).alloc (by simp) _
      have o2 := (bb.cell (p := ⟨w.heap.size + 1, 2, none⟩) lw1).trans x2
      have k2 := cell_row RB.out.2 2
      have kf2 := unfrozen_row RB.out.2 2
      simp at k2
      clear x0 x1 x2 bb
      go_upto_region 4 with ((have q := WB; clear q; at_builtin; refine wpl_none rfl _ _ 27 rfl 65 _ 3 24 Tryz.underlying27 Tryz.info65 none 0 0 ca rfl rfl (Nat.le_refl _) ?_; obtain ⟨Wc, hWc, xi⟩ := REST.out w1 _ m B1.out ST.out Wb Wb WB.out none 0 (Below.refl _ _) (by rw [HL0.out]; exact World.ownsRow_nil _ _ _ _); have XI := hid xi; have HWC := hid hWc; have MI := XI; clear xi hWc))
      rw [← HWC.out]
      have a0 := cell_row MI.out.r7 0
      have a1 := cell_row MI.out.r7 1
      have b0 := cell_row MI.out.r8 0
      have b1 := cell_row MI.out.r8 1
      have b2 := cell_row MI.out.r8 2
      simp at a0 a1 b0 b1 b2
      go_upto_region 5 with ((have q := MI; clear q; go_at_call 22; refine (MNT.out _ _ _ _ _ _ PB.out MI.out).mono ?_; rintro e w4 ⟨rfl, h44⟩; have B4 := hid h44; clear h44; have K4 := hid (And.intro ((B4.out.block _ (lt_of_block MI.out.r7)).trans MI.out.r7) ((B4.out.block _ (lt_of_block MI.out.r0)).trans MI.out.r0)); have K41 := (B4.out.block _ (lt_of_block MI.out.r1)).trans MI.out.r1; have LW4 : Hid (Below w.heap.size w w4) := MI.out.low.trans (B4.out.mono MI.out.low.size); have t0 := cell_row K4.out.2 0; have t1 := cell_row K4.out.2 1; have v0 := cell_row K41 0; have v1 := cell_row K41 1; have v2 := cell_row K41 2; simp at t0 t1 v0 v1 v2))
      go_upto_region 6 with ((have q := B4; clear q; go_at_call 23; refine (RMNT.out _ LW4.out).mono ?_; rintro e w5 ⟨rfl, h55⟩; have B5 := hid h55; clear h55; have K5 := hid ((B5.out.block _ (lt_of_block K4.out.1)).trans K4.out.1); have K6 := hid ((B5.out.block _ (lt_of_block K4.out.2)).trans K4.out.2); have y0 := cell_row K5.out 0; have y1 := cell_row K5.out 1; have z0 := cell_row K6.out 0; have z1 := cell_row K6.out 1; simp at y0 y1 z0 z1))
      rename (∀ (a : Act) (w_1 : World), Code.wp Tryz.prog ((Tryz.f5.body.bind (tailM 8)).getD .skip) (bodyPost Tryz.prog Tryz.f5 (fun e w' => e = .returned (.bool true) ∧ Below w.heap.size w w')) a w_1 → _) => hh
      have HT := hid hh
      clear hh
      have ARM17 : Hid (Below Wc.heap.size Wc w5) := B4.out.trans (B5.out.mono B4.out.size)
      go_wp2_with ((have q := ARM17; clear q; go_at_call 17; refine (SAME.out _ _ _ _ _ _ PB.out MI.out _ ARM17.out).mono ?_; rintro e w6 ⟨rfl, h6⟩; have B6 := hid h6; clear h6))
      refine HT.out _ _ ?_
      have B46 : Hid (Below Wc.heap.size Wc w6) := ARM17.out.trans (B6.out.mono ARM17.out.size)
      have z1 := MI.out.up.size
      have zl := MI.out.low.size
      have z6 := B46.out.size
      have hml : m.length = fl.length := by simpa using congrArg List.length PB.out
      have LK : Hid (∀ W, Likw (List.range' w.heap.size (Wc.heap.size - w.heap.size)) w6 W → Below w.heap.size w W) := fun W hw => MI.out.low.trans ((B46.out.mono zl).trans (hw.touch.below (by omega) (fun b hb => (List.mem_range'_1.1 hb).1)))
      have EACH : ∀ e ∈ m, ∃ y ∈ fl, e.file = y.file := fun e he => by
        obtain ⟨k, hk⟩ := List.getElem?_of_mem he
        have h3 := pubm_at PB.out k
        rw [hk] at h3
        cases hx : fl[k]? with
        | none => rw [hx] at h3; cases h3
        | some y =>
          rw [hx] at h3
          simp only [Option.map_some, Option.some.injEq, SFile.pub, Prod.mk.injEq] at h3
          exact ⟨y, List.mem_of_getElem? hx, h3.2⟩
      have MO := MI.out.mo B46.out (by have := HZ.out; omega) B1.out.size (fun e he => by obtain ⟨y, hy, e9⟩ := EACH e he; rw [e9]; exact HNB.out y hy) (fun e he => by obtain ⟨y, hy, e9⟩ := EACH e he; rw [e9]; exact HBL.out y hy)
      have e9 := HN.out
      exact mounts_tail MO (by omega) (by omega) (.inl rfl) LK.out _ _ _ _ _ _ _ _ _ _ _ _ _ _ _ _ _ _ _ _ _ _ _ _ _ _ _ _ _ _ _ _ _ _ _ _ _ _ _ _ _ _ _ _ _ _ _ _ _ _ _ _ _ _ _ _ _ _ _ _ _ _ _ _ _ _ _ _ _ _ _ _ _ _ _ _ _ _ _ _ _ _ _ _ _ _ _ _ _ _ _ _ _ _ _ _ _ _ _ _ _ _ _ _ _ _ _ _ _ _ _ _
  | some a =>
    cases cc with
    | none =>
      obtain ⟨hso, hsb, hfo⟩ : SetOk B Bs ∧ sB = B ∧ FilesOk B fl fl.length := by
        rcases HMV.out with ⟨_, a1, a2, a3, _⟩ | ⟨h, _⟩ | ⟨h, _⟩ | ⟨h, _⟩
        · exact ⟨a1, a2, a3⟩
        all_goals cases h
      subst hsb
      obtain ⟨Bn, hBn⟩ : ∃ b : Nat, sB = (b : Int) := ⟨sB.toNat, by have := hso.1; omega⟩
      subst hBn
      have HSO := hid hso
      have HGL := hid (FilesOk.good hfo (by omega) (by omega)).1
      clear hso hfo
      have MNT : Hid (∀ (w1 Wc : World) (fo : Value) (m : List SFile) (va : Option Addr) (vc : Nat), m.map SFile.pub = fl.map SFile.pub → Mi w Wa w1 Wc (.int .i64 Bn) (.int .i64 Bn) (.int .i64 Bs) (.slice fa L fc) fo m (some a) va n ca vc l → Calls Tryz.prog 22 #[.agg #[.int .i64 Bn, fo], .agg #[.int .i64 Bn, .int .i64 Bs, .slice va n vc]] Wc fun e w4 => ∃ p mf mt D, e = .returned (.tuple #[ptr p, .int .i64 0]) ∧ Rep w4 Wc.heap.size p mf mt D ∧ D.pub = mountA Bn Bs fl fl.length ∧ TIs D.T l ∧ Below Wc.heap.size Wc w4) := fun w1 Wc fo m va vc hp hi => by
        have hml : m.length = fl.length := by simpa using congrArg List.length hp
        have e9 := HN.out
        have hin : StIn Wc fo m := hi.st.sh.in_.below hi.up
        have r := Mount_go (B := Bn) (Bs := Bs) (tc := vc) (ENV.out Wc hi.low) hin hi.trs (by omega) (by omega) (by rw [hml, usedN_pub hp]; omega) (MountV.pub hp HMV.out)
        rw [← e9, mountA_pub hp] at r
        exact r
      have RMNT : Hid (∀ W, Below w.heap.size w W → Calls Tryz.prog 23 #[.agg #[.int .i64 Bn, .slice fa L fc], .agg #[.int .i64 Bn, .int .i64 Bs, .slice (some a) n ca]] W fun e w' => ∃ R : RefD, e = .returned (.tuple #[.pointer (some ⟨R.p, 0, none⟩), .int .i64 0]) ∧ RefAt w' R ∧ R.trs = l ∧ R.pub = mountA Bn Bs fl fl.length ∧ (∀ b ∈ R.foot, W.heap.size ≤ b) ∧ Below W.heap.size W w') := fun W hb => by
        have e9 := HN.out
        have r := rMount_go (B := Bn) (Bs := Bs) (tc := ca) (SIN.out W hb) (TRS.out W hb) HSN.out (by omega) (by omega) (by omega) HNL.out HMV.out
        rw [← e9] at r
        exact r
      have SAME : Hid (∀ (w1 Wc : World) (fo : Value) (m : List SFile) (va : Option Addr) (vc : Nat), m.map SFile.pub = fl.map SFile.pub → Mi w Wa w1 Wc (.int .i64 Bn) (.int .i64 Bn) (.int .i64 Bs) (.slice fa L fc) fo m (some a) va n ca vc l → ∀ W, Below Wc.heap.size Wc W → Calls Tryz.prog 17 #[.agg #[.int .i64 Bn, fo], .agg #[.int .i64 Bn, .slice fa L fc]] W fun e w' => e = .returned (.bool true) ∧ Below W.heap.size W w') := fun w1 Wc fo m va vc hp hi W hb => by
        have hml : m.length = fl.length := by simpa using congrArg List.length hp
        have z1 := hi.up.size
        have z2 := hi.low.size
        refine SameState_in (hi.st.sh.in_.below (hi.up.trans (hb.mono z1))) (SIN.out W (hi.low.trans (hb.mono z2))) hp (by omega) (fun e he => ?_)
        obtain ⟨k, hk⟩ := List.getElem?_of_mem he
        have h3 := pubm_at hp k
        rw [hk] at h3
        cases hx : fl[k]? with
        | none => rw [hx] at h3; cases h3
        | some y =>
          rw [hx] at h3
          simp only [Option.map_some, Option.some.injEq, SFile.pub, Prod.mk.injEq] at h3
          rw [h3.2]
          exact HNB.out y (List.mem_of_getElem? hx)
      go_enter Tryz.func5, Tryz.ntmps5
      go_upto_region 3 with ((rw [← HWa.out]; go_at_call 13; refine COPY.out.mono ?_; rintro e w1 ⟨fo, m, rfl, h11, h12, h13⟩; obtain ⟨ga, gc, rfl⟩ := row_slice h11.own; have ST := hid h11; have PB := hid h12; have B1 := hid h13; clear h11 h12 h13; have rr := (B1.out.block _ (lt_of_block HROW.out.2)).trans HROW.out.2; have x0 := cell_row rr 0; have x1 := cell_row rr 1; have x2 := cell_row rr 2; simp at x0 x1 x2; have lw1 := lt_of_block rr; clear rr; obtain ⟨Wb, hWb⟩ : ∃ Wb, Wb = (w1.alloc (.cells #[.int .i64 Bn, .slice ga m.length gc] 47)).alloc (.cells #[.int .i64 Bn, .int .i64 Bs, .slice (some a) n ca] 29) := ⟨_, rfl⟩; have WB := hid hWb; have LWB : Hid (Below w.heap.size w Wb) := (by rw [hWb]; have z9 := HBA.out.size; exact (((HBA.out.trans (B1.out.mono z9)).alloc (Nat.le_trans z9 B1.out.size) _).alloc (by have := B1.out.size; simp; omega) _)); clear hWb))
      rw [← WB.out]
      have RB := hid (heap_two w1 (.cells #[.int .i64 Bn, .slice ga m.length gc] 47) (.cells #[.int .i64 Bn, .int .i64 Bs, .slice (some a) n ca] 29))
      rw [← WB.out] at RB
      have bb : Below w1.heap.size w1 Wb := by rw [WB.out]; exact ((Below.refl _ w1).alloc (Nat.le_refl _) _).alloc (by simp) _
      have o2 := (bb.cell (p := ⟨w.heap.size + 1, 2, none⟩) lw1).trans x2
      have k2 := cell_row RB.out.2 2
      have kf2 := unfrozen_row RB.out.2 2
      simp at k2
      clear x0 x1 x2 bb
      go_upto_region 4 with ((have q := WB; clear q; at_builtin; refine wpl_far rfl _ _ 27 rfl Wb.heap.size 65 _ 3 24 Tryz.underlying27 Tryz.info65 rfl (by decide) (.slice none 0 0) 0 [] rfl (World.ownsRow_nil _ _ _ _) a n ca (l.flatMap TrA.cells) rfl (by rw [tflat_len, ← HN.out]) (fun j u hj => TC.out _ LWB.out a rfl j u hj) (tflat_one l) (by omega) (by omega) (Nat.le_refl _) ?_; intro v3 W3 o3 f3; rw [Nat.zero_add, List.nil_append] at o3; obtain ⟨va, vc, rfl⟩ := sh_slice o3; have b3 := below_of_far rfl f3; obtain ⟨Wc, hWc, xi⟩ := REST.out w1 _ m B1.out ST.out Wb W3 WB.out va vc b3 o3; have XI := hid xi; have HWC := hid hWc; have MI := XI; clear xi hWc; have r4 := (b3.block _ (lt_of_block RB.out.2)).trans RB.out.2; have g3 := cell_row r4 2; have gf3 := unfrozen_row r4 2; simp at g3; clear r4 o3 b3 f3))
      rw [← HWC.out]
      have a0 := cell_row MI.out.r7 0
      have a1 := cell_row MI.out.r7 1
      have b0 := cell_row MI.out.r8 0
      have b1 := cell_row MI.out.r8 1
      have b2 := cell_row MI.out.r8 2
      simp at a0 a1 b0 b1 b2
      go_upto_region 5 with ((have q := MI; clear q; go_at_call 22; refine (MNT.out _ _ _ _ _ _ PB.out MI.out).mono ?_; rintro e w4 ⟨dp, mf, mt, D, rfl, h41, h42, h43, h44⟩; have D4 := hid (And.intro h41 (And.intro h42 h43)); have B4 := hid h44; clear h41 h42 h43 h44; have K4 := hid (And.intro ((B4.out.block _ (lt_of_block MI.out.r7)).trans MI.out.r7) ((B4.out.block _ (lt_of_block MI.out.r0)).trans MI.out.r0)); have K41 := (B4.out.block _ (lt_of_block MI.out.r1)).trans MI.out.r1; have LW4 : Hid (Below w.heap.size w w4) := MI.out.low.trans (B4.out.mono MI.out.low.size); have t0 := cell_row K4.out.2 0; have t1 := cell_row K4.out.2 1; have v0 := cell_row K41 0; have v1 := cell_row K41 1; have v2 := cell_row K41 2; simp at t0 t1 v0 v1 v2))
      go_upto_region 6 with ((have q := B4; clear q; go_at_call 23; refine (RMNT.out _ LW4.out).mono ?_; rintro e w5 ⟨R, rfl, h51, h52, h53, h54, h55⟩; have R5 := hid (And.intro h51 (And.intro h52 (And.intro h53 h54))); have B5 := hid h55; clear h51 h52 h53 h54 h55; have K5 := hid ((B5.out.block _ (lt_of_block K4.out.1)).trans K4.out.1); have K6 := hid ((B5.out.block _ (lt_of_block K4.out.2)).trans K4.out.2); have y0 := cell_row K5.out 0; have y1 := cell_row K5.out 1; have z0 := cell_row K6.out 0; have z1 := cell_row K6.out 1; simp at y0 y1 z0 z1))
      rename (∀ (a : Act) (w_1 : World), Code.wp Tryz.prog ((Tryz.f5.body.bind (tailM 8)).getD .skip) (bodyPost Tryz.prog Tryz.f5 (fun e w' => e = .returned (.bool true) ∧ Below w.heap.size w w')) a w_1 → _) => hh
      have HT := hid hh
      clear hh
      have ARM17 : Hid (Below Wc.heap.size Wc w5) := B4.out.trans (B5.out.mono B4.out.size)
      go_wp2_with ((have q := ARM17; clear q; go_at_call 17; refine (SAME.out _ _ _ _ _ _ PB.out MI.out _ ARM17.out).mono ?_; rintro e w6 ⟨rfl, h6⟩; have B6 := hid h6; clear h6))
      refine HT.out _ _ ?_
      have B46 : Hid (Below Wc.heap.size Wc w6) := ARM17.out.trans (B6.out.mono ARM17.out.size)
      have z1 := MI.out.up.size
      have zl := MI.out.low.size
      have z6 := B46.out.size
      have hml : m.length = fl.length := by simpa using congrArg List.length PB.out
      have LK : Hid (∀ W, Likw (List.range' w.heap.size (Wc.heap.size - w.heap.size)) w6 W → Below w.heap.size w W) := fun W hw => MI.out.low.trans ((B46.out.mono zl).trans (hw.touch.below (by omega) (fun b hb => (List.mem_range'_1.1 hb).1)))
      have EACH : ∀ e ∈ m, ∃ y ∈ fl, e.file = y.file := fun e he => by
        obtain ⟨k, hk⟩ := List.getElem?_of_mem he
        have h3 := pubm_at PB.out k
        rw [hk] at h3
        cases hx : fl[k]? with
        | none => rw [hx] at h3; cases h3
        | some y =>
          rw [hx] at h3
          simp only [Option.map_some, Option.some.injEq, SFile.pub, Prod.mk.injEq] at h3
          exact ⟨y, List.mem_of_getElem? hx, h3.2⟩
      have MO := MI.out.mo B46.out (by have := HZ.out; omega) B1.out.size (fun e he => by obtain ⟨y, hy, e9⟩ := EACH e he; rw [e9]; exact HNB.out y hy) (fun e he => by obtain ⟨y, hy, e9⟩ := EACH e he; rw [e9]; exact HBL.out y hy)
      have e9 := HN.out
      refine mounts_tail MO (by omega) (by omega) (.inr ⟨_, rfl, fun W hw => ?_⟩) LK.out _ _ _ _ _ _ _ _ _ _ _ _ _ _ _ _ _ _ _ _ _ _ _ _ _ _ _ _ _ _ _ _ _ _ _ _ _ _ _ _ _ _ _ _ _ _ _ _ _ _ _ _ _ _ _ _ _ _ _ _ _ _ _ _ _ _ _ _ _ _ _ _ _ _ _ _ _ _ _ _ _ _ _ _ _ _ _ _ _ _ _ _ _ _ _ _ _ _ _ _ _ _ _ _ _ _ _ _ _ _ _ _
      have hD : ∀ b ∈ D.foot dp mf mt, Wc.heap.size ≤ b ∧ b < w4.heap.size := fun b hb => ⟨D4.out.1.base b hb, D4.out.1.lt b hb⟩
      have z4 := B4.out.size
      have b56 : Below w5.heap.size w5 w6 := B6.out
      have PL : Pl W E w.heap.size dp mf mt t D R := by
        refine Pl.mounted (ENV.out W (LK.out W hw)) ?_ ?_ D4.out.2.1 R5.out.2.2.1 D4.out.2.2 R5.out.2.1 HSO.out HGL.out h1 h2 (fun b hb hm => ?_) (fun b hb => ?_) (by omega)
        · refine ((((D4.out.1.touch (Touch.of_below (F := []) B5.out (Nat.le_refl _)) (by simp)).touch (Touch.of_below (F := []) b56 (Nat.le_refl _)) (by simp)).touch hw.touch (fun b hb hm => ?_)).lower (by omega))
          have g1 := List.mem_range'_1.1 hm
          have g2 := hD b hb
          omega
        · refine (R5.out.1.touch (Touch.of_below (F := []) b56 (Nat.le_refl _)) (by simp)).touch hw.touch (fun b hb hm => ?_)
          have g1 := List.mem_range'_1.1 hm
          have g2 := R5.out.2.2.2 b hb
          omega
        · have g1 := R5.out.2.2.2 b hb
          have g2 := hD b hm
          omega
        · have g1 := R5.out.2.2.2 b hb
          omega
      refine (plays_any (ca := co) PL rfl HO.out (LK.out W hw) HNM.out (by omega)).mono fun e w' h9 => ⟨h9.1, (LK.out W hw).trans h9.2⟩
    | some cc =>
      have MNT : Hid (∀ (w1 Wc : World) (fo : Value) (m : List SFile) (va : Option Addr) (vc : Nat), m.map SFile.pub = fl.map SFile.pub → Mi w Wa w1 Wc (.int .i64 sB) (.int .i64 B) (.int .i64 Bs) (.slice fa L fc) fo m (some a) va n ca vc l → Calls Tryz.prog 22 #[.agg #[.int .i64 sB, fo], .agg #[.int .i64 B, .int .i64 Bs, .slice va n vc]] Wc fun e w4 => e = .returned (.tuple #[.pointer none, .int .i64 (code cc)]) ∧ Below Wc.heap.size Wc w4) := fun w1 Wc fo m va vc hp hi => by
        have hml : m.length = fl.length := by simpa using congrArg List.length hp
        have hin : StIn Wc fo m := hi.st.sh.in_.below hi.up
        exact Mount_no (ENV.out Wc hi.low) hin (by omega) (by rw [hml, usedN_pub hp]; omega) (MountV.pub hp HMV.out)
      have RMNT : Hid (∀ W, Below w.heap.size w W → Calls Tryz.prog 23 #[.agg #[.int .i64 sB, .slice fa L fc], .agg #[.int .i64 B, .int .i64 Bs, .slice (some a) n ca]] W fun e w' => e = .returned (.tuple #[.pointer none, .int .i64 (code cc)]) ∧ Below W.heap.size W w') := fun W hb => by
        have e9 := HN.out
        have r := rMount_no (tc := ca) (SIN.out W hb) (TRS.out W hb) HSN.out (by omega) (by omega) (by omega) HNL.out HMV.out
        rw [← e9] at r
        exact r
      have SAME : Hid (∀ (w1 Wc : World) (fo : Value) (m : List SFile) (va : Option Addr) (vc : Nat), m.map SFile.pub = fl.map SFile.pub → Mi w Wa w1 Wc (.int .i64 sB) (.int .i64 B) (.int .i64 Bs) (.slice fa L fc) fo m (some a) va n ca vc l → ∀ W, Below Wc.heap.size Wc W → Calls Tryz.prog 17 #[.agg #[.int .i64 sB, fo], .agg #[.int .i64 sB, .slice fa L fc]] W fun e w' => e = .returned (.bool true) ∧ Below W.heap.size W w') := fun w1 Wc fo m va vc hp hi W hb => by
        have hml : m.length = fl.length := by simpa using congrArg List.length hp
        have z1 := hi.up.size
        have z2 := hi.low.size
        refine SameState_in (hi.st.sh.in_.below (hi.up.trans (hb.mono z1))) (SIN.out W (hi.low.trans (hb.mono z2))) hp (by omega) (fun e he => ?_)
        obtain ⟨k, hk⟩ := List.getElem?_of_mem he
        have h3 := pubm_at hp k
        rw [hk] at h3
        cases hx : fl[k]? with
        | none => rw [hx] at h3; cases h3
        | some y =>
          rw [hx] at h3
          simp only [Option.map_some, Option.some.injEq, SFile.pub, Prod.mk.injEq] at h3
          rw [h3.2]
          exact HNB.out y (List.mem_of_getElem? hx)
      go_enter Tryz.func5, Tryz.ntmps5
      go_upto_region 3 with ((rw [← HWa.out]; go_at_call 13; refine COPY.out.mono ?_; rintro e w1 ⟨fo, m, rfl, h11, h12, h13⟩; obtain ⟨ga, gc, rfl⟩ := row_slice h11.own; have ST := hid h11; have PB := hid h12; have B1 := hid h13; clear h11 h12 h13; have rr := (B1.out.block _ (lt_of_block HROW.out.2)).trans HROW.out.2; have x0 := cell_row rr 0; have x1 := cell_row rr 1; have x2 := cell_row rr 2; simp at x0 x1 x2; have lw1 := lt_of_block rr; clear rr; obtain ⟨Wb, hWb⟩ : ∃ Wb, Wb = (w1.alloc (.cells #[.int .i64 sB, .slice ga m.length gc] 47)).alloc (.cells #[.int .i64 B, .int .i64 Bs, .slice (some a) n ca] 29) := ⟨_, rfl⟩; have WB := hid hWb; have LWB : Hid (Below w.heap.size w Wb) := (by rw [hWb]; have z9 := HBA.out.size; exact (((HBA.out.trans (B1.out.mono z9)).alloc (Nat.le_trans z9 B1.out.size) _).alloc (by have := B1.out.size; simp; omega) _)); clear hWb))
      rw [← WB.out]
      have RB := hid (heap_two w1 (.cells #[.int .i64 sB, .slice ga m.length gc] 47) (.cells #[.int .i64 B, .int .i64 Bs, .slice (some a) n ca] 29))
      rw [← WB.out] at RB
      have bb : Below w1.heap.size w1 Wb := by rw [WB.out]; exact ((Below.refl _ w1).alloc (Nat.le_refl _) _).alloc (by simp) _
      have o2 := (bb.cell (p := ⟨w.heap.size + 1, 2, none⟩) lw1).trans x2
      have k2 := cell_row RB.out.2 2
      have kf2 := unfrozen_row RB.out.2 2
      simp at k2
      clear x0 x1 x2 bb
      go_upto_region 4 with ((have q := WB; clear q; at_builtin; refine wpl_far rfl _ _ 27 rfl Wb.heap.size 65 _ 3 24 Tryz.underlying27 Tryz.info65 rfl (by decide) (.slice none 0 0) 0 [] rfl (World.ownsRow_nil _ _ _ _) a n ca (l.flatMap TrA.cells) rfl (by rw [tflat_len, ← HN.out]) (fun j u hj => TC.out _ LWB.out a rfl j u hj) (tflat_one l) (by omega) (by omega) (Nat.le_refl _) ?_; intro v3 W3 o3 f3; rw [Nat.zero_add, List.nil_append] at o3; obtain ⟨va, vc, rfl⟩ := sh_slice o3; have b3 := below_of_far rfl f3; obtain ⟨Wc, hWc, xi⟩ := REST.out w1 _ m B1.out ST.out Wb W3 WB.out va vc b3 o3; have XI := hid xi; have HWC := hid hWc; have MI := XI; clear xi hWc; have r4 := (b3.block _ (lt_of_block RB.out.2)).trans RB.out.2; have g3 := cell_row r4 2; have gf3 := unfrozen_row r4 2; simp at g3; clear r4 o3 b3 f3))
      rw [← HWC.out]
      have a0 := cell_row MI.out.r7 0
      have a1 := cell_row MI.out.r7 1
      have b0 := cell_row MI.out.r8 0
      have b1 := cell_row MI.out.r8 1
      have b2 := cell_row MI.out.r8 2
      simp at a0 a1 b0 b1 b2
      go_upto_region 5 with ((have q := MI; clear q; go_at_call 22; refine (MNT.out _ _ _ _ _ _ PB.out MI.out).mono ?_; rintro e w4 ⟨rfl, h44⟩; have B4 := hid h44; clear h44; have K4 := hid (And.intro ((B4.out.block _ (lt_of_block MI.out.r7)).trans MI.out.r7) ((B4.out.block _ (lt_of_block MI.out.r0)).trans MI.out.r0)); have K41 := (B4.out.block _ (lt_of_block MI.out.r1)).trans MI.out.r1; have LW4 : Hid (Below w.heap.size w w4) := MI.out.low.trans (B4.out.mono MI.out.low.size); have t0 := cell_row K4.out.2 0; have t1 := cell_row K4.out.2 1; have v0 := cell_row K41 0; have v1 := cell_row K41 1; have v2 := cell_row K41 2; simp at t0 t1 v0 v1 v2))
      go_upto_region 6 with ((have q := B4; clear q; go_at_call 23; refine (RMNT.out _ LW4.out).mono ?_; rintro e w5 ⟨rfl, h55⟩; have B5 := hid h55; clear h55; have K5 := hid ((B5.out.block _ (lt_of_block K4.out.1)).trans K4.out.1); have K6 := hid ((B5.out.block _ (lt_of_block K4.out.2)).trans K4.out.2); have y0 := cell_row K5.out 0; have y1 := cell_row K5.out 1; have z0 := cell_row K6.out 0; have z1 := cell_row K6.out 1; simp at y0 y1 z0 z1))
      rename (∀ (a : Act) (w_1 : World), Code.wp Tryz.prog ((Tryz.f5.body.bind (tailM 8)).getD .skip) (bodyPost Tryz.prog Tryz.f5 (fun e w' => e = .returned (.bool true) ∧ Below w.heap.size w w')) a w_1 → _) => hh
      have HT := hid hh
      clear hh
      have ARM17 : Hid (Below Wc.heap.size Wc w5) := B4.out.trans (B5.out.mono B4.out.size)
      go_wp2_with ((have q := ARM17; clear q; go_at_call 17; refine (SAME.out _ _ _ _ _ _ PB.out MI.out _ ARM17.out).mono ?_; rintro e w6 ⟨rfl, h6⟩; have B6 := hid h6; clear h6))
      refine HT.out _ _ ?_
      have B46 : Hid (Below Wc.heap.size Wc w6) := ARM17.out.trans (B6.out.mono ARM17.out.size)
      have z1 := MI.out.up.size
      have zl := MI.out.low.size
      have z6 := B46.out.size
      have hml : m.length = fl.length := by simpa using congrArg List.length PB.out
      have LK : Hid (∀ W, Likw (List.range' w.heap.size (Wc.heap.size - w.heap.size)) w6 W → Below w.heap.size w W) := fun W hw => MI.out.low.trans ((B46.out.mono zl).trans (hw.touch.below (by omega) (fun b hb => (List.mem_range'_1.1 hb).1)))
      have EACH : ∀ e ∈ m, ∃ y ∈ fl, e.file = y.file := fun e he => by
        obtain ⟨k, hk⟩ := List.getElem?_of_mem he
        have h3 := pubm_at PB.out k
        rw [hk] at h3
        cases hx : fl[k]? with
        | none => rw [hx] at h3; cases h3
        | some y =>
          rw [hx] at h3
          simp only [Option.map_some, Option.some.injEq, SFile.pub, Prod.mk.injEq] at h3
          exact ⟨y, List.mem_of_getElem? hx, h3.2⟩
      have MO := MI.out.mo B46.out (by have := HZ.out; omega) B1.out.size (fun e he => by obtain ⟨y, hy, e9⟩ := EACH e he; rw [e9]; exact HNB.out y hy) (fun e he => by obtain ⟨y, hy, e9⟩ := EACH e he; rw [e9]; exact HBL.out y hy)
      have e9 := HN.out
      exact mounts_tail MO (by omega) (by omega) (.inl rfl) LK.out _ _ _ _ _ _ _ _ _ _ _ _ _ _ _ _ _ _ _ _ _ _ _ _ _ _ _ _ _ _ _ _ _ _ _ _ _ _ _ _ _ _ _ _ _ _ _ _ _ _ _ _ _ _ _ _ _ _ _ _ _ _ _ _ _ _ _ _ _ _ _ _ _ _ _ _ _ _ _ _ _ _ _ _ _ _ _ _ _ _ _ _ _ _ _ _ _ _ _ _ _ _ _ _ _ _ _ _ _ _ _ _
end Go.Proofs.YtcpncfngadablaaGreatDoor
