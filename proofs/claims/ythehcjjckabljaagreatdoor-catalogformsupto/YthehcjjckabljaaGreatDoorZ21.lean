import Derived.Deep.LoopGhost
import Derived.Test.YthehcjjckabljaaGreatDoorZ20
/-
  Commit, where nothing speaks against the table and no trouble befalls it.
-/
namespace Go.Proofs.YthehcjjckabljaaGreatDoor
open Go.RowKit Go.Deep
set_option maxRecDepth 100000
set_option linter.unusedSimpArgs false
set_option linter.unusedVariables false

/-- a world behind w: where the bench stands in it. -/
structure Here (w W : World) (b : Bn) (n : Nat) (A : PubA) (s : Pu.St) (F F' : List Nat) : Prop where
  S : Stand W b n A s F'
  t : Touch F w W
  f : ∀ y ∈ F', y ∈ F ∨ w.heap.size ≤ y

section
variable {w W W' : World} {b : Bn} {n n' : Nat} {A A' : PubA} {s s' : Pu.St} {F F' : List Nat}
theorem Here.start (S : Stand w b n A s F) : Here w w b n A s F F := ⟨S, Touch.refl _ _, fun y hy => .inl hy⟩
theorem Here.quiet (h : Here w W b n A s F F') (t : Touch [] W W') : Here w W' b n A s F F' := ⟨h.S.quiet t, h.t.trans t (by simp), h.f⟩
theorem Here.went (h : Here w W b n A s F F') (g : Went W W' b n' A' s' F' []) : ∃ F2, Here w W' b n' A' s' F F2 ∧ Touch F' W W' ∧ ∀ y, y ∉ F' → y < W.heap.size → y ∉ F2 := by
  obtain ⟨F2, S2, t2, f2⟩ := g
  refine ⟨F2, ⟨S2, (h.t.trans t2 (fun y hy => h.f y (by simpa using hy))), fun y hy => ?_⟩, t2.mono (by simp), fun y h1 h2 hx => ?_⟩
  · rcases f2 y hy with h1 | h1
    · exact h.f y h1
    · exact .inr (Nat.le_trans h.t.size h1)
  · rcases f2 y hx with h3 | h3
    · exact h1 h3
    · omega
theorem Here.own {G : List Nat} (h : Here w W b n A s F F') (t : Touch G W W') (hlo : b.lo ≤ w.heap.size) (hG : ∀ y ∈ G, y ∉ F' ∧ w.heap.size ≤ y) : Here w W' b n A s F F' :=
  ⟨h.S.touch t (fun y hy => ⟨(hG y hy).1, by have := (hG y hy).2; omega⟩), h.t.trans t (fun y hy => .inr (hG y hy).2), h.f⟩
theorem Here.last {G : List Nat} (h : Here w W b n A s F F') (g : Went W W' b n' A' s' F' G) (hG : ∀ y ∈ G, w.heap.size ≤ y) : Went w W' b n' A' s' F [] :=
  Went.then (h.t.mono (by simp)) h.f g (fun y hy => .inr (hG y hy))
theorem Here.old (h : Here w W b n A s F F') {y : Nat} (h1 : y ∉ F) (h2 : y < w.heap.size) : y ∉ F' := fun hx => by
  rcases h.f y hx with h3 | h3
  · exact h1 h3
  · omega
end

theorem catN_sz (g : Nat) : (bs (catN g)).size ≤ 32 := by
  show (catN g).toArray.size ≤ 32
  rw [List.size_toArray]
  unfold catN
  simp [PureHex.hexW_len]

section
variable {w : World} {b : Bn} {n : Nat} {A : PubA} {s : Pu.St} {F : List Nat} {kb K : Nat} {T : Int} {t : Tbl} {gen : Nat} {so sr : Option Addr} {co cr : Nat}

/-- the disk behind the new catalog. -/
def putA (A : PubA) (K : Nat) (t : Tbl) (g : Nat) : PubA := mkX A (bs (catN g)) true (blocksOf 5 K A.B (recsN t g) (nBlocks K (recsN t g).length)) (2 + (nBlocks K (recsN t g).length : Nat))

set_option maxHeartbeats 8000000 in
theorem commit_ok (S : Stand w b n A s F) (C : LayOk b A (bs (catN (gen + 1))) 5 K (recsN t (gen + 1))) (hn : n < 274877906944) (hk : DeskAt w kb b (K : Int) T) (hkF : kb ∉ F) (hT : Tabs w) (h17 : 17 ≤ b.lo) (ht : TblAt w t so sr) (ho : ∀ a, so = some a → t.order ≠ [] → a.block ∉ F ∧ a.block < w.heap.size) (hr : ∀ a, sr = some a → t.rows ≠ [] → a.block ∉ F ∧ a.block < w.heap.size) (hfree : 64 * (K : Int) ≤ s.free) (hg : gen < 18446744073709551615) (hfb : formedB t = true) (hov : overA A gen = false) (hrd : readyE A (sortU (filesN t.rows)) [] = 0) :
    Calls Tryz.prog 19 #[ptr kb, tblV t so sr co cr, .int .u64 (gen : Int)] w fun e w' => e = .returned (.int .i64 (tidyB b (filesN t.rows ++ [catN (gen + 1)]) (putA A K t (gen + 1))).1) ∧
      Went w w' b (n + (recsN t (gen + 1)).length + 3 + (namesA (putA A K t (gen + 1))).length) (tidyB b (filesN t.rows ++ [catN (gen + 1)]) (putA A K t (gen + 1))).2 ((s.take (K : Int)).give (K : Int)) F [] := by
  have hroom := S.room
  have hFlt := S.lt
  have hklt := lt_of_block hk
  have hKK := C.hK
  have hlen := C.len
  have hl := free_leave (s := s) (K := (K : Int)) (by omega) hfree
  have hwr : IntKind.u64.wrap ((gen : Int) + 1) = ((gen + 1 : Nat) : Int) := by rw [IntKind.wrap_u64]; omega
  have HRF := hid (fun W (tt : Touch [] w W) => (by
    have h := refusal_desk (co := co) (cr := cr) (S.quiet tt) (by omega) (hk.touch tt (by simp)) (hT.quiet tt) (ht.touch tt (by simp) (by simp)) hg hfb
    rw [hov] at h
    unfold refuseE at h
    rw [if_neg (by simp [hfb]), if_neg (by omega), if_neg (by simp)] at h
    exact h : Calls Tryz.prog 45 #[ptr kb, tblV t so sr co cr, .int .u64 (gen : Int)] W fun e w' => e = .returned (.int .i64 0) ∧ Touch [] W w'))
  have HFO := hid (fun W (tt : Touch [] w W) => filesOf_any (c := cr) (ht.rows.touch tt (by simp)) ht.rl (fun x hx => (ht.ri x hx).2) (hT.quiet tt))
  have HNM := hid (fun W (hT' : Tabs W) => Nm.name_any (gen + 1) (by omega) W hT'.tz)
  have HWH := hid (fun W F' (I : Here w W b n A s F F') (sa : Option Addr) (c : Nat) (hs : StrsAt W sa (sortU (filesN t.rows))) => (by
    have hkn : kb ∉ F' := I.old hkF hklt
    have h1 := sortU_len (filesN t.rows)
    have h2 : (filesN t.rows).length = t.rows.length := by unfold filesN; simp
    have h3 := ht.rl
    have h := whole_any (ci := c) (co := 0) (lo := []) I.S (by omega) (hk.touch I.t hkF) hkn (by omega) hs (StrsAt.nil _ none) (by omega) (by simp) 0
    rw [wholeE_ok C.new.on hrd hfree] at h
    exact h : Calls Tryz.prog 47 #[ptr kb, .int .i64 0, .slice sa (sortU (filesN t.rows)).length c, .slice none 0 0] W fun e w' => e = .returned (.int .i64 0) ∧ Went W w' b n A s F' []))
  have HWT := hid (fun W F' (I : Here w W b n A s F F') => (by
    have hkn : kb ∉ F' := I.old hkF hklt
    have hT' : Tabs W := hT.touch I.t (fun y hy => by have := S.base y hy; omega)
    exact write_ok (co := co) (cr := cr) I.S C (by omega) (hk.touch I.t hkF) hkn hT' (ht.touch2 I.t (fun a ha e => (ho a ha e).1) (fun a ha e => (hr a ha e).1)) (fun a ha e => ⟨I.old (ho a ha e).1 (ho a ha e).2, Nat.lt_of_lt_of_le (ho a ha e).2 I.t.size⟩) (fun a ha e => ⟨I.old (hr a ha e).1 (hr a ha e).2, Nat.lt_of_lt_of_le (hr a ha e).2 I.t.size⟩) hl (by omega)
      : Calls Tryz.prog 49 #[ptr kb, tblV t so sr co cr, .int .u64 ((gen + 1 : Nat) : Int)] W fun e w' => e = .returned (.int .i64 0) ∧ Went W w' b (n + (recsN t (gen + 1)).length + 3) (putA A K t (gen + 1)) ((s.take (K : Int)).give (K : Int)) F' []))
  have HTD := hid (fun W F' mb (I : Here w W b (n + (recsN t (gen + 1)).length + 3) (putA A K t (gen + 1)) ((s.take (K : Int)).give (K : Int)) F F') (hm : SeenAt W mb (filesN t.rows ++ [catN (gen + 1)])) (hmF : mb ∉ F') (hmw : w.heap.size ≤ mb) => (by
    have hkn : kb ∉ F' := I.old hkF hklt
    exact tidy_any I.S (by omega) (hk.touch I.t hkF) hkn hm hmF (by omega)
      : Calls Tryz.prog 51 #[ptr kb, .map (some mb)] W fun e w' => e = .returned (.int .i64 (tidyB b (filesN t.rows ++ [catN (gen + 1)]) (putA A K t (gen + 1))).1) ∧ Went W w' b (n + (recsN t (gen + 1)).length + 3 + (namesA (putA A K t (gen + 1))).length) (tidyB b (filesN t.rows ++ [catN (gen + 1)]) (putA A K t (gen + 1))).2 ((s.take (K : Int)).give (K : Int)) F' [mb]))
  have HTB : Hid (∀ W F', Touch F' w W → F' = F → Tabs W) := hid (fun W F' tt e => hT.touch tt (fun y hy => by subst e; have := S.base y hy; omega))
  have HS := hid S
  have HFL := hid (show (filesN t.rows).length ≤ 1099511627776 by have h3 := ht.rl; unfold filesN; rw [List.length_map]; omega)
  have hnF : w.heap.size ∉ F := fun h => by have := hFlt _ h; omega
  have HT0 := hid ((Touch.refl [] w).alloc (.cells #[.int .i64 t.vars, .slice so t.order.length co, .slice sr t.rows.length cr, .int .i64 t.next, .int .u64 (t.nf : Int)] 26))
  have HR0 := hid (heap_alloc_new w (.cells #[.int .i64 t.vars, .slice so t.order.length co, .slice sr t.rows.length cr, .int .i64 t.next, .int .u64 (t.nf : Int)] 26))
  clear S C hk hT ht ho hr hov hrd hfree hfb
  generalize (tidyB b (filesN t.rows ++ [catN (gen + 1)]) (putA A K t (gen + 1))).1 = r51 at *
  generalize (tidyB b (filesN t.rows ++ [catN (gen + 1)]) (putA A K t (gen + 1))).2 = A51 at *
  generalize n + (recsN t (gen + 1)).length + 3 + (namesA (putA A K t (gen + 1))).length = n51 at *
  generalize n + (recsN t (gen + 1)).length + 3 = n49 at *
  generalize putA A K t (gen + 1) = A49 at *
  simp only [tblV] at *
  go_enter Tryz.func19, Tryz.ntmps19
  go_wp2_with (go_at_call 45; refine (HRF.out _ HT0.out).mono ?_; rintro e w1 ⟨rfl, ht1⟩; have HT1 := hid (HT0.out.trans ht1 (by simp)); have HR1 := hid ((ht1.block _ (lt_of_block HR0.out) (by simp)).trans HR0.out); clear ht1)
  rw [run_makeMap_n w1]
  obtain ⟨W2, hW2⟩ : ∃ W2, W2 = w1.alloc (.map #[] 0) := ⟨_, rfl⟩
  have t2 : Touch [] w1 W2 := by rw [hW2]; exact (Touch.refl [] w1).alloc _
  rw [← hW2]
  clear hW2
  have HT2 := hid (HT1.out.trans t2 (by simp))
  have HR2 := hid ((t2.block _ (lt_of_block HR1.out) (by simp)).trans HR1.out)
  clear t2
  have c2 := fun i => cell_row HR2.out i
  go_wp2_with (first
    | (go_at_call 51; refine (HTD.out _ _ _ HI8.out HM8.out HNF6.out hmw).mono ?_; rintro e w9 ⟨rfl, hw9⟩; have HW9 := hid (HI8.out.last hw9 (by simp; exact hmw)); clear hw9)
    | (go_at_call 50; refine (add_any (HM6.out.touch HT7.out (by simp)) HFL.out (x := bs (catN (gen + 1))) (catN_sz _)).mono ?_; rintro e w8 ⟨rfl, hs8, ht8⟩; have HM8 := hid hs8; have HI8 := hid ((HI6.out.quiet HT7.out).own ht8 hroom (by simp; exact ⟨HNF6.out, hmw⟩)); clear hs8 ht8)
    | (go_at_call 22; refine (HNM.out _ (HTB.out _ _ HI6.out.t rfl)).mono ?_; rintro e w7 ⟨rfl, hb7⟩; have HT7 := hid (Touch.of_below (F := []) hb7 (Nat.le_refl _)); clear hb7)
    | (go_at_call 49; refine (HWT.out _ _ HI5.out).mono ?_; rintro e w6 ⟨rfl, hw6⟩; obtain ⟨F6, hI6, tt6, n6⟩ := HI5.out.went hw6; have HI6 := hid hI6; have HM6 := hid (HM5.out.touch tt6 HNF5.out); have HNF6 := hid (n6 _ HNF5.out HM5.out.lt); clear hI6 tt6 n6 hw6)
    | (go_at_call 47; refine (HWH.out _ F ((Here.start HS.out).quiet HT4.out) _ _ HSR.out).mono ?_; rintro e w5 ⟨rfl, hw5⟩; obtain ⟨F5, hI5, tt5, n5⟩ := ((Here.start HS.out).quiet HT4.out).went hw5; have HI5 := hid hI5; have HM5 := hid (HM4.out.touch tt5 hmF); have HNF5 := hid (n5 _ hmF HM4.out.lt); have HR5 := hid ((tt5.block _ (lt_of_block HR4.out) hnF).trans HR4.out); have c5 := (fun i => cell_row HR5.out i); clear hI5 tt5 n5 hw5)
    | (go_at_call 48; refine (sorted_any HMB.out HFL.out).mono ?_; rintro e w4 ⟨sa, c, rfl, hsa, ht4⟩; have HSR := hid hsa; have HT4 := hid (HT3.out.trans ht4 (by simp)); have HM4 := hid (HMB.out.touch ht4 (by simp)); have HR4 := hid ((ht4.block _ (lt_of_block HR3.out) (by simp)).trans HR3.out); clear hsa ht4)
    | (go_at_call 46; refine (HFO.out _ HT2.out).mono ?_; rintro e w3 ⟨mb, rfl, hmb, hsm, ht3⟩; have HMB := hid hsm; have HT3 := hid (HT2.out.trans ht3 (by simp)); have HR3 := hid ((ht3.block _ (lt_of_block HR2.out) (by simp)).trans HR2.out); have hmw : w.heap.size ≤ mb := Nat.le_trans HT2.out.size hmb; have hmF : mb ∉ F := (fun h => by have := hFlt _ h; omega); clear hsm ht3))
  go_ret
  exact ⟨rfl, HW9.out⟩
end
end Go.Proofs.YthehcjjckabljaaGreatDoor
namespace Go.Proofs.YthehcjjckabljaaGreatDoor
open Go.RowKit Go.Deep

section
variable {w w' : World} {E : Nat → Addr} {lo p mf mt : Nat} {D : DiskC}

theorem fileOf_fin {B : Nat} {o : Obj} {w1 : World} {sv : Value} {bs : List Nat} {blocks : List (List UInt8)} (x : Bool) (hb : BlocksAt w1 B sv bs blocks) (hf : FreshB (w.alloc o).heap.size sv bs) (ht : Below (w.alloc o).heap.size (w.alloc o) w1) :
    FileAt (w1.alloc (.cells #[.int .i64 (if x then 1 else 0), sv] 160)) B ⟨w1.heap.size, sv, bs⟩ ⟨x, blocks⟩ ∧ (∀ b ∈ (⟨w1.heap.size, sv, bs⟩ : Lay).foot, w.heap.size ≤ b) ∧ (⟨w1.heap.size, sv, bs⟩ : Lay).foot.Nodup ∧ ∀ o' : Obj, Below w.heap.size w (w1.alloc o') := by
  have hs : (w.alloc o).heap.size = w.heap.size + 1 := by simp
  have hs1 := ht.size
  have hk := hb.kept (w' := w1.alloc (.cells #[.int .i64 (if x then 1 else 0), sv] 160)) fun b hb' => Below.heap_alloc w1 _ b (by rcases hb' with h' | h'; exact hb.lt.1 b h'; exact hb.lt.2 b h')
  refine ⟨⟨heap_alloc_new w1 _, hk.own, hk.bytes⟩, fun b hb' => ?_, ?_, fun o' => ?_⟩
  · simp only [Lay.foot, List.mem_cons, List.mem_append, Option.mem_toList] at hb'
    rcases hb' with rfl | h | h
    · omega
    · have := hf.1 b h; omega
    · have := hf.2.1 b h; omega
  · show (w1.heap.size :: (sv.ownBlock.toList ++ bs)).Nodup
    rw [List.nodup_cons]
    refine ⟨fun h => ?_, hf.2.2⟩
    rcases List.mem_append.1 h with h | h
    · have := hb.lt.1 _ (by simpa using h); omega
    · have := hb.lt.2 _ h; omega
  · exact (((Below.refl _ w).alloc (Nat.le_refl _) o).trans (ht.mono (by omega))).alloc (by omega) _


theorem less_before : ∀ a b : List UInt8, Op.bytesLess a b = bytesBefore a b
  | [], [] => rfl
  | _ :: _, [] => rfl
  | [], _ :: _ => rfl
  | a :: x, b :: y => by simp only [Op.bytesLess, bytesBefore, less_before x y]


end
end Go.Proofs.YthehcjjckabljaaGreatDoor
namespace Go.Proofs.YthehcjjckabljaaGreatDoor
open Go.RowKit Go.Deep

/-- the name ahead of file k. -/
def lastN (l : List SFile) (k : Nat) : List UInt8 := match k with | 0 => [] | j + 1 => (l[j]?.map SFile.name).getD []
/-- the blocks of the first k files. -/
def usedN (l : List SFile) (k : Nat) : Nat := ((l.take k).map fun e => e.file.blocks.length).sum

theorem usedN_succ {l : List SFile} {k : Nat} {e : SFile} (h : l[k]? = some e) : usedN l (k + 1) = usedN l k + e.file.blocks.length := by
  unfold usedN
  obtain ⟨hk, rfl⟩ := List.getElem?_eq_some_iff.1 h
  rw [List.take_succ_eq_append_getElem hk, List.map_append, List.sum_append]
  simp only [List.map_cons, List.map_nil, List.sum_cons, List.sum_nil, Nat.add_zero]
theorem usedN_le (l : List SFile) (k : Nat) : usedN l k ≤ usedN l l.length := by
  unfold usedN
  rw [List.take_length]
  have h := congrArg (fun x => (x.map fun e : SFile => e.file.blocks.length).sum) (List.take_append_drop k l)
  simp only [List.map_append, List.sum_append] at h
  omega

/-- what Mount asks of a state's files. -/
structure GoodL (l : List SFile) : Prop where
  names : ∀ e ∈ l, nameB ⟨e.name.toArray⟩ = true
  rising : l.Pairwise fun a b => bytesBefore a.name b.name = true
  few : l.length ≤ 1099511627776
  blocks : usedN l l.length ≤ 1099511627776

theorem GoodL.one {l : List SFile} (h : GoodL l) {k : Nat} {e : SFile} (he : l[k]? = some e) : e.file.blocks.length ≤ 1099511627776 := by
  have h1 := usedN_succ he
  have h2 := usedN_le l (k + 1)
  have h3 := h.blocks
  omega


section
variable {w w' : World} {E : Nat → Addr} {lo p mf mt : Nat} {D : DiskC}


end
end Go.Proofs.YthehcjjckabljaaGreatDoor
namespace Go.Proofs.YthehcjjckabljaaGreatDoor
open Go.RowKit Go.Deep

theorem insE_end {e : Ent} : ∀ {l : List Ent}, (∀ y ∈ l, bytesBefore y.name e.name = true) → insE e l = l ++ [e]
  | [], _ => rfl
  | y :: r, h => by
    have hy := h y (by simp)
    have hn : (Lit.string e.name).before (.string y.name) = false := by
      show bytesBefore e.name y.name = false
      cases hx : bytesBefore e.name y.name with
      | false => rfl
      | true =>
        have := WideShapes.bytes_trans _ _ _ hy hx
        rw [WideAt.bytes_irrefl] at this
        cases this
    unfold insE
    rw [hn]
    simp [insE_end (l := r) fun z hz => h z (by simp [hz])]

section
variable {w w' : World} {E : Nat → Addr} {lo p mf mt : Nat} {D : DiskC}

/-- A file, with what it holds, put in. -/
theorem Rep.insertFile (R : Rep w lo p mf mt D) {e : Ent} (hs : e.name.length ≤ 32) (hfind : findE D.ents e.name = none) (ht : Touch [mf] w w') (hfresh : ∀ b ∈ e.lay.foot, w.heap.size ≤ b) (hlo : lo ≤ w.heap.size) (hnd : e.lay.foot.Nodup) (hat : FileAt w' D.B e.lay e.file)
    (hmap : w'.ownsMap Tryz.prog 9 ptrElem mf (D.ents.length + 1) ((mapOf D.ents).put (.string e.name) (.lit (.int .i64 e.lay.fb)))) : Rep w' lo p mf mt { D with ents := insE e D.ents } := by
  obtain ⟨n, hT⟩ := R.troubles
  have hne := R.p_ne
  have hperm := insE_perm e D.ents
  have hfoot : (DiskC.foot { D with ents := insE e D.ents } p mf mt).Perm (e.lay.foot ++ D.foot p mf mt) := by
    simp only [DiskC.foot]
    have h1 := hperm.flatMap_right fun e : Ent => e.lay.foot
    rw [List.flatMap_cons] at h1
    refine (((h1.cons mt).cons mf).cons p).trans ?_
    refine .trans (((List.perm_middle (a := mt)).symm.cons mf).cons p) ?_
    refine .trans ((List.perm_middle (a := mf)).symm.cons p) ?_
    exact (List.perm_middle (a := p)).symm
  have hold : ∀ b ∈ D.foot p mf mt, b ≠ mf → w'.heap[b]? = w.heap[b]? := fun b hb h => ht.block b (R.lt b hb) (by simp [h])
  refine ⟨(hold p (by simp [DiskC.foot]) hne.2.1).trans R.row, ?_, ⟨n, ownsMap_kept hT (hold mt (by simp [DiskC.foot]) hne.2.2.symm)⟩, ?_, ?_, ?_, ?_⟩
  · rw [put_map hfind] at hmap
    show w'.ownsMap Tryz.prog 9 ptrElem mf (insE e D.ents).length _
    rw [hperm.length_eq]
    exact hmap
  · intro x hx
    rcases List.mem_cons.1 (hperm.mem_iff.1 hx) with rfl | hx
    · exact hat
    · exact (R.each x hx).kept fun b hb => by
        have := R.ent_ne hx hb
        exact ht.block b this.2.2.2.1 (by simp [this.2.1])
  · rw [hfoot.nodup_iff, List.nodup_append]
    exact ⟨hnd, R.apart, fun x hx y hy h => by have := hfresh x hx; have := R.lt y hy; omega⟩
  · intro b hb
    rcases List.mem_append.1 (hfoot.mem_iff.1 hb) with hb | hb
    · exact Nat.le_trans hlo (hfresh b hb)
    · exact R.base b hb
  · intro x hx
    rcases List.mem_cons.1 (hperm.mem_iff.1 hx) with rfl | hx
    · exact hs
    · exact R.names x hx

/-- what a mounted disk holds behind k files. -/
def mountA (B : Nat) (Bs : Int) (l : List SFile) (k : Nat) : PubA := ⟨B, Bs, true, (l.take k).map SFile.pub, ⟨0, 0, 0, 0, 0, usedN l k, usedN l k⟩⟩






theorem mount_arm {wr X wx : World} {a b c : Value} {t : TypeId} (R : Rep wr lo p mf mt D) (T : Touch [] wr X) (row : X.heap[wr.heap.size]? = some (.cells #[a, b, c] t (0, 0))) (hb : Below X.heap.size X wx) :
    Touch [] wr wx ∧ wx.heap[wr.heap.size]? = some (.cells #[a, b, c] t (0, 0)) ∧ wx.cell? ⟨p, 3, none⟩ = some (.map (some mf)) ∧ wx.cell? ⟨wr.heap.size, 0, none⟩ = some a ∧ wx.cell? ⟨wr.heap.size, 1, none⟩ = some b ∧ wx.cell? ⟨wr.heap.size, 2, none⟩ = some c := by
  have hr := (hb.block _ (lt_of_block row)).trans row
  have hT : Touch [] wr wx := T.trans (Touch.of_below (F := []) hb (Nat.le_refl _)) (by simp)
  exact ⟨hT, hr, (hT.cell (p := ⟨p, 3, none⟩) (lt_of_block R.row) (by simp)).trans (R.cell 3), cell_row hr 0, cell_row hr 1, cell_row hr 2⟩

theorem mount_upd {wr wx : World} {a b c : Value} {t : TypeId} {s : List UInt8} (R : Rep wr lo p mf mt D) (T : Touch [] wr wx) (row : wx.heap[wr.heap.size]? = some (.cells #[a, b, c] t (0, 0))) (hn : D.ents.length ≤ 1099511627776) (hs : s.length ≤ 32) (fb : Nat) :
    ∃ wA, (Instr.mapUpdate 97 (.map (some mf)) (encStr s) (ptr fb)).run Tryz.prog wx = .ok () wA ∧ wA.ownsMap Tryz.prog 9 ptrElem mf (D.ents.length + 1) ((mapOf D.ents).put (.string s) (.lit (.int .i64 fb))) ∧ wx.grownBy wA (some mf) ∧
      wA.cell? ⟨p, 3, none⟩ = some (.map (some mf)) ∧ wA.cell? ⟨wr.heap.size, 0, none⟩ = some a ∧ wA.cell? ⟨wr.heap.size, 1, none⟩ = some b ∧ wA.cell? ⟨wr.heap.size, 2, none⟩ = some c := by
  have h1 := ownsMap_kept R.files (T.block mf R.files.lt (by simp))
  obtain ⟨wA, a1, a2, a3⟩ := file_store h1 hn (s := ⟨s.toArray⟩) (show s.toArray.size ≤ 32 by simpa using hs) fb
  have hl := R.files.lt
  have hr := (a3.block _ (lt_of_block row) (by simp; omega)).trans row
  have hp : wx.cell? ⟨p, 3, none⟩ = some (.map (some mf)) := (T.cell (p := ⟨p, 3, none⟩) (lt_of_block R.row) (by simp)).trans (R.cell 3)
  exact ⟨wA, a1, a2, a3, a3.cell hp (by simp [R.p_ne.2.1]), cell_row hr 0, cell_row hr 1, cell_row hr 2⟩


end
end Go.Proofs.YthehcjjckabljaaGreatDoor
namespace Go.Proofs.YthehcjjckabljaaGreatDoor
open Go.RowKit Go.Deep

section
variable {w w' : World} {E : Nat → Addr} {lo p mf mt : Nat} {D : DiskC}

/-- bytes that a slice shows. -/
structure Shows (w : World) (sa : Option Addr) (n c : Nat) (d : List UInt8) : Prop where
  len : d.length = n
  cap : n ≤ c
  at_ : 0 < n → ∃ a, sa = some a ∧ a.block < w.heap.size ∧ ∀ j v, (Lib.byteCells d)[j]? = some v → w.cell? (a.add j) = some v
  nil : sa = none → n = 0 ∧ c = 0





end
section
variable {w w' : World}
theorem Shows.touch {sa : Option Addr} {n c : Nat} {d : List UInt8} {F : List Nat} (h : Shows w sa n c d) (ht : Touch F w w') (hF : ∀ a, sa = some a → a.block ∉ F) : Shows w' sa n c d :=
  ⟨h.len, h.cap, fun h0 => by
    obtain ⟨a, e, hl, hc⟩ := h.at_ h0
    exact ⟨a, e, by have := ht.size; omega, fun j v hv => by
      have h1 := hc j v hv
      have hb : (a.add j).block = a.block := by unfold Addr.add; split <;> rfl
      rw [ht.cell (by rw [hb]; exact hl) (by rw [hb]; exact hF a e)]
      exact h1⟩, h.nil⟩
end
end Go.Proofs.YthehcjjckabljaaGreatDoor
/-
  A state that came in: only read.
-/
namespace Go.Proofs.YthehcjjckabljaaGreatDoor
open Go.RowKit Go.Deep
set_option maxRecDepth 100000
section
variable {w w' : World}
end
/-- blocks that a slice shows. -/
structure BlIn (w : World) (sv : Value) (blocks : List (List UInt8)) : Prop where
  sl : ∃ a c, sv = .slice a blocks.length c
  at_ : ∀ i (hi : i < blocks.length), ∃ a c xa xn xc, sv = .slice (some a) blocks.length c ∧ a.block < w.heap.size ∧ w.cell? (a.add i) = some (.slice xa xn xc) ∧ Shows w xa xn xc blocks[i]
/-- files that a slice shows. -/
structure StIn (w : World) (fv : Value) (l : List SFile) : Prop where
  sl : ∃ a c, fv = .slice a l.length c
  at_ : ∀ (k : Nat) (e : SFile), l[k]? = some e → ∃ a c, fv = .slice (some a) l.length c ∧ a.block < w.heap.size ∧ w.cell? (a.add (k * 3)) = some (encStr e.name) ∧ w.cell? ⟨(a.add (k * 3)).block, (a.add (k * 3)).off + 1, none⟩ = some (.bool e.file.shut) ∧ w.cell? ⟨(a.add (k * 3)).block, (a.add (k * 3)).off + 2, none⟩ = some e.sv ∧ BlIn w e.sv e.file.blocks
section
variable {w w' : World} {sv fv : Value} {blocks : List (List UInt8)} {l : List SFile}
theorem BlIn.below (h : BlIn w sv blocks) (hb : Below w.heap.size w w') : BlIn w' sv blocks :=
  ⟨h.sl, fun i hi => by
    obtain ⟨a, c, xa, xn, xc, e, hl, hc, hs⟩ := h.at_ i hi
    exact ⟨a, c, xa, xn, xc, e, Nat.lt_of_lt_of_le hl hb.size, (hb.cell (by rw [add_block]; exact hl)).trans hc, hs.touch (Touch.of_below (F := []) hb (Nat.le_refl _)) (by simp)⟩⟩
theorem StIn.below (h : StIn w fv l) (hb : Below w.heap.size w w') : StIn w' fv l :=
  ⟨h.sl, fun k e he => by
    obtain ⟨a, c, e1, hl, c0, c1, c2, hbl⟩ := h.at_ k e he
    have hc : ∀ q : Addr, q.block = (a.add (k * 3)).block → w'.cell? q = w.cell? q := fun q hq => hb.cell (by rw [hq, add_block]; exact hl)
    exact ⟨a, c, e1, Nat.lt_of_lt_of_le hl hb.size, (hc _ rfl).trans c0, (hc ⟨(a.add (k * 3)).block, (a.add (k * 3)).off + 1, none⟩ rfl).trans c1, (hc ⟨(a.add (k * 3)).block, (a.add (k * 3)).off + 2, none⟩ rfl).trans c2, hbl.below hb⟩⟩
end
end Go.Proofs.YthehcjjckabljaaGreatDoor
/-
  Two states that are only read: alike.
-/
namespace Go.Proofs.YthehcjjckabljaaGreatDoor
open Go.RowKit Go.Deep
section
variable {w w' : World}
theorem BlIn.slice1 {sv : Value} {blocks : List (List UInt8)} (h : BlIn w sv blocks) (h0 : ¬ blocks.length = 0) : ∃ a c, sv = .slice (some a) blocks.length c := by
  obtain ⟨a, c, _, _, _, e, _⟩ := h.at_ 0 (by omega)
  exact ⟨a, c, e⟩
theorem StIn.one {fv : Value} {l : List SFile} (h : StIn w fv l) (h0 : ¬ l.length = 0) : ∃ a c, fv = .slice (some a) l.length c := by
  obtain ⟨a, c, e, _⟩ := h.at_ 0 _ (List.getElem?_eq_getElem (by omega))
  exact ⟨a, c, e⟩
theorem StIn.read {fv : Value} {l : List SFile} {k gc : Nat} {A : Addr} {e : SFile} (h : StIn w fv l) (he : l[k]? = some e) (hv : fv = .slice (some A) l.length gc) : w.cell? (A.add (k * 3)) = some (encStr e.name) ∧ w.cell? ⟨(A.add (k * 3)).block, (A.add (k * 3)).off + 1, none⟩ = some (.bool e.file.shut) ∧ w.cell? ⟨(A.add (k * 3)).block, (A.add (k * 3)).off + 2, none⟩ = some e.sv ∧ BlIn w e.sv e.file.blocks := by
  obtain ⟨a, c, e1, _, c0, c1, c2, hb⟩ := h.at_ k e he
  rw [hv] at e1
  simp only [Value.slice.injEq, Option.some.injEq] at e1
  obtain ⟨rfl, _⟩ := e1
  exact ⟨c0, c1, c2, hb⟩



end
end Go.Proofs.YthehcjjckabljaaGreatDoor
/-
  The landed Mount's parts over a state that came in: blocks copied, a file made.
-/
namespace Go.Proofs.YthehcjjckabljaaGreatDoor
open Go.RowKit Go.Deep
section
variable {w w' : World}
theorem copyIn_at {a : Addr} {B c : Nat} {bl : List UInt8} (h : ∀ j v, (Lib.byteCells bl)[j]? = some v → w.cell? (a.add j) = some v) (ha : a.block < w.heap.size) (hl : bl.length = B) (hc : B ≤ c) (h1 : 64 ≤ B) (h2 : B ≤ 65536) :
    Calls Tryz.prog 173 #[.slice (some a) B c, .int .i64 B] w fun e w' => e = .returned (sliceV w.heap.size B) ∧ BytesAt w' w.heap.size bl ∧ Touch [] w w' ∧ w'.heap.size = w.heap.size + 1 := by
  have h3 := copyBlock_any bl a c (B : Int) w (by omega) (by omega) (by omega) (by omega) h ha
  rw [cutB_whole (by omega), hl] at h3
  exact h3
set_option maxRecDepth 100000 in
set_option maxHeartbeats 400000 in
theorem copyBlocksIn_any {B : Nat} {sv : Value} {blocks : List (List UInt8)} (h : BlIn w sv blocks) (hlb : ∀ b ∈ blocks, b.length = B) (hB1 : 64 ≤ B) (hB2 : B ≤ 65536) (hn : blocks.length ≤ 1099511627776) :
    Calls Tryz.prog 121 #[sv] w fun e w' => ∃ sv' bs', e = .returned sv' ∧ BlocksAt w' B sv' bs' blocks ∧ FreshB w.heap.size sv' bs' ∧ Below w.heap.size w w' := by
  by_cases h0 : blocks.length = 0
  · obtain ⟨a1, c1, hsv⟩ := h.sl
    have hbl : blocks = [] := List.eq_nil_of_length_eq_zero h0
    subst hbl
    rw [hsv]
    clear h hsv
    simp only [List.length_nil]
    go_enter Tryz.func121, Tryz.ntmps121
    go_wp2
    refine wp_loop_rounds 1 ?_
    rw [rounds_succ]
    go_wp2
    go_ret
    exact ⟨.slice none 0 0, [], rfl, ⟨World.ownsRow_nil _ _ _ _, fun i b bl hb => by simp at hb⟩, ⟨by simp [Value.ownBlock], by simp, by simp [Value.ownBlock]⟩, Below.refl _ _⟩
  · obtain ⟨A, gc, hsv⟩ := h.slice1 h0
    have H := hid h
    have HSV := hid hsv
    have HLB := hid hlb
    rw [hsv]
    clear h hsv hlb
    go_enter Tryz.func121, Tryz.ntmps121
    go_wp2
    go_loopw [3, 8] (fun v i wr => ∃ (k : Nat) (bs' : List Nat), k ≤ blocks.length ∧ i = .int .i64 k ∧ BlocksAt wr B v bs' (blocks.take k) ∧ FreshB w.heap.size v bs' ∧ Below w.heap.size w wr) (fun _ i _ => blocks.length - (intOf i).toNat)
    case atStart => exact ⟨0, [], Nat.zero_le _, rfl, ⟨World.ownsRow_nil _ _ _ _, fun i b bl hb => by simp at hb⟩, ⟨by simp [Value.ownBlock], by simp, by simp [Value.ownBlock]⟩, Below.refl _ _⟩
    case round =>
      obtain ⟨k, bs', hk, rfl, hB, hF, hb⟩ := hrel
      by_cases hlt : k < blocks.length
      · obtain ⟨A', cap, xa, xn, xc, e1, _, cG, hs⟩ := (H.out.below hb).at_ k hlt
        rw [HSV.out] at e1
        simp only [Value.slice.injEq, Option.some.injEq] at e1
        obtain ⟨rfl, -, -⟩ := e1
        have hlen : (blocks[k]'hlt).length = B := HLB.out _ (List.getElem_mem hlt)
        have hxn : xn = B := by rw [← hs.len, hlen]
        rw [hxn] at cG hs
        clear hxn
        obtain ⟨ad, rfl, lad, hcells⟩ := hs.at_ (by omega)
        have HC := hid (copyIn_at hcells lad hlen hs.cap hB1 hB2)
        have hl : (blocks.take k).length = k := by simp; omega
        have HB := hid hB
        have HF := hid hF
        have HBW := hid hb
        have HL := hid hl
        have HLEN := hid hlen
        clear hs hcells lad hB hF hb hl hlen
        go_wp2_with (first
          | (go_at_call 173; refine HC.out.mono ?_; rintro e w2 ⟨rfl, hb2, ht2, hz2⟩; have HB2 := hid hb2; have HT2 := hid ht2; have HZ2 := hid hz2; clear hb2 ht2 hz2)
          | (at_builtin; refine wpList_append_fresh _ rfl _ _ rfl u3 k (bs'.map fun b => sliceV b B) ⟨w2.heap.size, 0, none⟩ (sliceV wr.heap.size B) rfl rfl ?h1 ?h2 rfl ?h3 ?_; rotate_left 3; intro v' w3 r1 r2 r3; have H1 := hid r1; have H2 := hid r2; have H3 := hid r3; clear r1 r2 r3))
        case h1 =>
          have h := ownsRow_touch HB.out.own HT2.out (by simp)
          rw [HL.out] at h
          exact h.alloc _
        case h2 => exact cell_row (heap_alloc_new w2 _) 0
        case h3 => omega
        have hz := HZ2.out
        have hbw := HBW.out.size
        have hl := HL.out
        have hr := HB.out.snoc (nb := blocks[k]) HF.out hbw (Nat.le_refl _) (by omega) HT2.out HLEN.out HB2.out (by rw [hl]; exact H1.out) H2.out H3.out
        have htk : blocks.take (k + 1) = blocks.take k ++ [blocks[k]] := List.take_succ_eq_append_getElem hlt
        have hbel : Below w.heap.size w w3 := HBW.out.trans (hr.2.2.below hbw (fun b hb => HF.out.1 b (by simpa using hb)))
        rw [← htk] at hr
        have HR := hid hr
        have HBE := hid hbel
        clear hr hbel htk hz hl hbw
        go_roundw
        case rel => first | exact ⟨k + 1, bs' ++ [wr.heap.size], by omega, by go_num, HR.out.1, HR.out.2.1, HBE.out⟩ | ((repeat apply Exists.intro); exact ⟨⟨k + 1, bs' ++ [wr.heap.size], by omega, by go_num, HR.out.1, HR.out.2.1, HBE.out⟩, rfl⟩)
        case measure => simp [intOf]; omega
      · go_wp2
        go_ret
        have hk' : k = blocks.length := by omega
        subst hk'
        rw [List.take_length] at hB
        exact ⟨u3, bs', rfl, hB, hF, hb⟩

set_option maxRecDepth 100000 in
set_option maxHeartbeats 400000 in
theorem fileOfIn_any {B : Nat} {s : ByteArray} {x : Bool} {sv : Value} {blocks : List (List UInt8)} (h : BlIn w sv blocks) (hlb : ∀ b ∈ blocks, b.length = B) (hB1 : 64 ≤ B) (hB2 : B ≤ 65536) (hn : blocks.length ≤ 1099511627776) :
    Calls Tryz.prog 78 #[.agg #[.string s, .bool x, sv]] w fun e w' => ∃ L : Lay, e = .returned (ptr L.fb) ∧ FileAt w' B L ⟨x, blocks⟩ ∧ (∀ b ∈ L.foot, w.heap.size ≤ b) ∧ L.foot.Nodup ∧ Below w.heap.size w w' := by
  have HC := hid (fun o : Obj => copyBlocksIn_any (w := w.alloc o) (h.below ((Below.refl _ w).alloc (Nat.le_refl _) o)) hlb hB1 hB2 hn)
  obtain ⟨ga, gc, hsv⟩ := h.sl
  rw [hsv] at HC
  rw [hsv]
  clear h hsv
  cases x
  all_goals
    go_enter Tryz.func78, Tryz.ntmps78
    go_wp2_with (go_at_call 121; refine (HC.out _).mono ?_; rintro e w1 ⟨sv', bs', rfl, hb1, hf1, ht1⟩; have HB1 := hid hb1; have HF1 := hid hf1; have HT1 := hid ht1; obtain ⟨ka, kn, kc, hk⟩ := hb1.own_slice; clear hb1 hf1 ht1)
    go_ret
    first
      | (obtain ⟨h1, h2, h3, h4⟩ := fileOf_fin false HB1.out HF1.out HT1.out
         rw [hk] at h1 h2 h3
         exact ⟨_, rfl, h1, h2, h3, h4 _⟩)
      | (obtain ⟨h1, h2, h3, h4⟩ := fileOf_fin true HB1.out HF1.out HT1.out
         rw [hk] at h1 h2 h3
         exact ⟨_, rfl, h1, h2, h3, h4 _⟩)
end
end Go.Proofs.YthehcjjckabljaaGreatDoor
/-
  The landed Mount's look at a file of a state that came in: told exactly.
-/
namespace Go.Proofs.YthehcjjckabljaaGreatDoor
open Go.RowKit Go.Deep
/-- may the file stand there? -/
def FOk (B : Int) (last s : ByteArray) (blocks : List (List UInt8)) : Prop := nameB s = true ∧ (Op.bytesLess s.toList last.toList || s.toList == last.toList) = false ∧ ∀ b ∈ blocks, (b.length : Int) = B
section
variable {w w' : World} {E : Nat → Addr} {lo : Nat}
set_option maxRecDepth 100000 in
set_option maxHeartbeats 1000000 in
theorem checkFile_first (V : Env w lo E) {B : Int} {s last : ByteArray} {x : Bool} {sa : Option Addr} {n c : Nat} (hs : ¬ (nameB s = true ∧ (Op.bytesLess s.toList last.toList || s.toList == last.toList) = false)) :
    Calls Tryz.prog 127 #[.agg #[.string s, .bool x, .slice sa n c], .string last, .int .i64 B] w fun e w' => e = .returned (errV E 10) ∧ Below w.heap.size w w' := by
  have c10 : ∀ o : Obj, (w.alloc o).cell? ⟨5, 0, none⟩ = some (errV E 10) := fun o => (V.alloc o).sents.var10
  by_cases h1 : nameB s = true
  · have h2 : (Op.bytesLess s.toList last.toList || s.toList == last.toList) = true := by
      cases hq : (Op.bytesLess s.toList last.toList || s.toList == last.toList) with
      | true => rfl
      | false => exact absurd ⟨h1, hq⟩ hs
    clear hs V
    go_enter Tryz.func127, Tryz.ntmps127
    go_wp2_with (go_at_call 176; refine (isName_any _ _).mono ?_; rintro e w2 ⟨rfl, hw2⟩; rw [hw2]; clear hw2 w2)
    go_ret
    exact ⟨rfl, (Below.refl _ w).alloc (Nat.le_refl _) _⟩
  · have h2 : nameB s = false := by simpa using h1
    clear hs V h1
    go_enter Tryz.func127, Tryz.ntmps127
    go_wp2_with (go_at_call 176; refine (isName_any _ _).mono ?_; rintro e w2 ⟨rfl, hw2⟩; rw [hw2]; clear hw2 w2)
    go_ret
    exact ⟨rfl, (Below.refl _ w).alloc (Nat.le_refl _) _⟩
set_option maxRecDepth 100000 in
set_option maxHeartbeats 1000000 in
theorem checkFile_in (V : Env w lo E) {B : Int} {s last : ByteArray} {x : Bool} {sv : Value} {blocks : List (List UInt8)} (h : BlIn w sv blocks) (hn : blocks.length ≤ 1099511627776) :
    Calls Tryz.prog 127 #[.agg #[.string s, .bool x, sv], .string last, .int .i64 B] w fun e w' => ((FOk B last s blocks ∧ e = .returned .nilIface) ∨ (¬ FOk B last s blocks ∧ e = .returned (errV E 10))) ∧ Below w.heap.size w w' := by
  obtain ⟨sa, sc, hsv⟩ := h.sl
  by_cases hs : nameB s = true ∧ (Op.bytesLess s.toList last.toList || s.toList == last.toList) = false
  · obtain ⟨h1, h2⟩ := hs
    have c10 : ∀ o : Obj, (w.alloc o).cell? ⟨5, 0, none⟩ = some (errV E 10) := fun o => (V.alloc o).sents.var10
    obtain ⟨m, hm⟩ : ∃ m, m = blocks.length := ⟨_, rfl⟩
    have HH := hid h
    have HM := hid hm
    have HSV := hid hsv
    have YES : Hid ((∀ b ∈ blocks, (b.length : Int) = B) → FOk B last s blocks) := fun h3 => ⟨h1, h2, h3⟩
    have NO : Hid (∀ (k : Nat) b, blocks[k]? = some b → (b.length : Int) ≠ B → ¬ FOk B last s blocks) := fun k b hb hne hf => hne (hf.2.2 b (List.mem_of_getElem? hb))
    rw [hsv, ← hm]
    rw [← hm] at hn
    clear h V hsv hm
    go_enter Tryz.func127, Tryz.ntmps127
    go_wp2_with (go_at_call 176; refine (isName_any _ _).mono ?_; rintro e w2 ⟨rfl, hw2⟩; rw [hw2]; clear hw2 w2)
    go_loopw [23, 8] (fun i _ wr => Hid (∃ k : Nat, k ≤ m ∧ i = .int .i64 (k : Int) ∧ wr = w.alloc (.cells #[.string s, .bool x, .slice sa m sc] 113) ∧ ∀ (j : Nat) b, j < k → blocks[j]? = some b → (b.length : Int) = B)) (fun i _ _ => m - (intOf i).toNat)
    case atStart => exact ⟨0, Nat.zero_le _, rfl, rfl, fun j b hj => by omega⟩
    case round =>
      obtain ⟨k, hk, rfl, hwr, hall⟩ := hrel.out
      subst hwr
      clear hrel
      by_cases hlt : k < m
      · obtain ⟨b, hb⟩ : ∃ b, blocks[k]? = some b := ⟨_, List.getElem?_eq_getElem (by have := HM.out; omega)⟩
        have hbe := (List.getElem?_eq_some_iff.1 hb).2
        obtain ⟨A, gc, xa, xn, xc, e1, lA, cA, sh⟩ := (HH.out.below ((Below.refl _ w).alloc (Nat.le_refl _) (.cells #[.string s, .bool x, .slice sa m sc] 113))).at_ k (by have := HM.out; omega)
        have e2 := HSV.out
        have e3 := HM.out
        rw [e2, ← e3] at e1
        simp only [Value.slice.injEq] at e1
        obtain ⟨rfl, -, -⟩ := e1
        have hxn : b.length = xn := by rw [hbe] at sh; exact sh.len
        have hk1 : (k : Int) < (m : Int) := by omega
        have k0 : (0 : Int) ≤ (k : Int) := by omega
        have V2 : IntKind.i64.wrap ((k : Int) + 1) = (k : Int) + 1 := by rw [IntKind.wrap_i64]; omega
        have HB := hid hb
        have HX := hid hxn
        have HA := hid hall
        clear sh e2 e3 hbe hb hxn hall
        by_cases hxB : (xn : Int) = B
        · have hne : ((xn : Int) != B) = false := by simpa using hxB
          have NX : Hid (∀ (j : Nat) b, j < k + 1 → blocks[j]? = some b → (b.length : Int) = B) := fun j b' hj hb' => by
            by_cases hjk : j < k
            · exact HA.out j b' hjk hb'
            · have : j = k := by omega
              subst this
              have h9 := HB.out
              rw [h9] at hb'
              cases hb'
              have h8 := HX.out
              rw [h8]
              exact hxB
          go_wp2
          exact ⟨⟨k + 1, by omega, by simp, by first | rfl | trivial, NX.out⟩, by simp [intOf]; omega⟩
        · have hne : ((xn : Int) != B) = true := by simpa using hxB
          go_wp2
          go_ret
          refine ⟨.inr ⟨NO.out k b HB.out (by have h8 := HX.out; rw [h8]; exact hxB), rfl⟩, (Below.refl _ w).alloc (Nat.le_refl _) _⟩
      · have hk1 : ¬ (k : Int) < (m : Int) := by omega
        have OK : Hid (∀ b ∈ blocks, (b.length : Int) = B) := fun b hb => by
          obtain ⟨j, hj⟩ := List.getElem?_of_mem hb
          exact hall j b (by have := (List.getElem?_eq_some_iff.1 hj).1; have := HM.out; omega) hj
        clear hall
        go_wp2
        go_ret
        exact ⟨.inl ⟨YES.out OK.out, rfl⟩, (Below.refl _ w).alloc (Nat.le_refl _) _⟩
  · rw [hsv]
    exact (checkFile_first V hs).mono fun e w' ⟨h1, h2⟩ => ⟨.inr ⟨fun hf => hs ⟨hf.1, hf.2.1⟩, h1⟩, h2⟩
end
end Go.Proofs.YthehcjjckabljaaGreatDoor
/-
  byCall: the map of troubles out of a list.
-/
namespace Go.Proofs.YthehcjjckabljaaGreatDoor
open Go.RowKit Go.Deep

/-- A map whose elements are troubles. -/
def AllT (T : DataW Unit) : Prop := ∃ l, T = .map l ∧ ∀ x ∈ l, ∃ a k b : Int, x.2 = .agg [.lit (.int .i64 a), .lit (.int .i64 k), .lit (.int .i64 b)]

theorem AllT.trouble {T : DataW Unit} (h : AllT T) (n : Int) : ∃ a k b, TroubleIs T n a k b := by
  obtain ⟨l, rfl, hl⟩ := h
  unfold TroubleIs DataW.atKey
  simp only
  split
  · next p hp => obtain ⟨a, k, b, e⟩ := hl p (List.mem_of_find?_eq_some hp); exact ⟨a, k, b, e⟩
  · exact ⟨0, 0, 0, rfl⟩
theorem AllT.nil : AllT (.map []) := ⟨[], rfl, by simp⟩
theorem insert_mem {x y : Lit × DataW Unit} : ∀ {l : List (Lit × DataW Unit)}, y ∈ DataW.insert x l → y = x ∨ y ∈ l
  | [], h => by simp [DataW.insert] at h; exact .inl h
  | z :: r, h => by
    unfold DataW.insert at h
    split at h
    · rcases List.mem_cons.1 h with h | h
      · exact .inl h
      · exact .inr h
    · rcases List.mem_cons.1 h with h | h
      · exact .inr (by simp [h])
      · rcases insert_mem h with h | h
        · exact .inl h
        · exact .inr (List.mem_cons_of_mem _ h)
theorem AllT.put {T : DataW Unit} (h : AllT T) (n : Lit) (a k b : Int) : AllT (T.put n (.agg [.lit (.int .i64 a), .lit (.int .i64 k), .lit (.int .i64 b)])) := by
  obtain ⟨l, rfl, hl⟩ := h
  refine ⟨_, rfl, fun x hx => ?_⟩
  rcases insert_mem hx with rfl | hx
  · exact ⟨a, k, b, rfl⟩
  · exact hl x (List.mem_filter.1 hx).1

/-- A list of troubles that came in. -/
structure TrsAt (w : World) (sa : Option Addr) (l : List TrA) : Prop where
  at_ : ∀ k (hk : k < l.length), ∃ a, sa = some a ∧ a.block < w.heap.size ∧ w.cell? (a.add (k * 3)) = some (.int .i64 l[k].at_) ∧ w.cell? ⟨(a.add (k * 3)).block, (a.add (k * 3)).off + 1, none⟩ = some (.int .i64 l[k].kind) ∧ w.cell? ⟨(a.add (k * 3)).block, (a.add (k * 3)).off + 2, none⟩ = some (.int .i64 l[k].bytes)
  wf : ∀ k (hk : k < l.length), (Lit.int .i64 l[k].at_).wf = true

theorem tr_add_block (a : Addr) (i : Nat) : (a.add i).block = a.block := by unfold Addr.add; split <;> rfl

theorem TrsAt.read {w w' : World} {sa : Option Addr} {l : List TrA} (h : TrsAt w sa l) {k : Nat} (hk : k < l.length) (hb : Below w.heap.size w w') :
    ∃ a, sa = some a ∧ a.block < w.heap.size ∧ w'.cell? (a.add (k * 3)) = some (.int .i64 l[k].at_) ∧ w'.cell? ⟨(a.add (k * 3)).block, (a.add (k * 3)).off + 1, none⟩ = some (.int .i64 l[k].kind) ∧ w'.cell? ⟨(a.add (k * 3)).block, (a.add (k * 3)).off + 2, none⟩ = some (.int .i64 l[k].bytes) := by
  obtain ⟨a, e, hl, c0, c1, c2⟩ := h.at_ k hk
  have hc : ∀ q : Addr, q.block = (a.add (k * 3)).block → w'.cell? q = w.cell? q := fun q hq => hb.cell (by rw [hq, tr_add_block]; exact hl)
  exact ⟨a, e, hl, (hc _ rfl).trans c0, (hc ⟨(a.add (k * 3)).block, (a.add (k * 3)).off + 1, none⟩ rfl).trans c1, (hc ⟨(a.add (k * 3)).block, (a.add (k * 3)).off + 2, none⟩ rfl).trans c2⟩

theorem wrap_step {j m : Nat} (h : j < m) (h2 : m ≤ 1099511627776) : wrap64 ((j : Int) + 1) = (j : Int) + 1 := IntWalk.wrap64_in _ ⟨by omega, by omega⟩
theorem next_num (j : Nat) : Value.int .i64 ((j : Int) + 1) = Value.int .i64 ((j + 1 : Nat) : Int) := by simp
theorem less_step {j m : Nat} (h : j < m) : m - (intOf (.int .i64 ((j : Int) + 1))).toNat < m - (intOf (.int .i64 (j : Int))).toNat := by
  simp [intOf]
  omega

theorem tr_look {W : World} {mt n : Nat} {T : DataW Unit} {at_ a k b : Int} (hT : W.ownsMap Tryz.prog 3 trElem mt n T) (h : TroubleIs T at_ a k b) (hw : (Lit.int .i64 at_).wf = true) :
    (Instr.lookup 98 (.map (some mt)) (.int .i64 at_) true).run Tryz.prog W = .ok (.tuple #[.agg #[.int .i64 a, .int .i64 k, .int .i64 b], .bool (Maps.has T (.int .i64 at_))]) W := by
  obtain ⟨v, ps, hrun, hv⟩ := hT.look_ok (t := 98) (e := 67) (Maps.int_keyed Tryz.underlying3) Tryz.underlying98 (Tryz.zero67 W) (zd := .agg [.lit (.int .i64 0), .lit (.int .i64 0), .lit (.int .i64 0)]) (zp := []) rfl (Maps.keyOf_int_mk Tryz.underlying3 hw)
  unfold TroubleIs at h
  rw [h] at hv
  rw [hrun, trElem_inv hv]

theorem tr_store {W : World} {mt n : Nat} {T : DataW Unit} (hT : W.ownsMap Tryz.prog 3 trElem mt n T) (hn : n < 1099511627776) {at_ : Int} (hw : (Lit.int .i64 at_).wf = true) (k b : Int) :
    ∃ w2, (Instr.mapUpdate 98 (.map (some mt)) (.int .i64 at_) (.agg #[.int .i64 at_, .int .i64 k, .int .i64 b])).run Tryz.prog W = .ok () w2 ∧ w2.ownsMap Tryz.prog 3 trElem mt (n + 1) (T.put (.int .i64 at_) (.agg [.lit (.int .i64 at_), .lit (.int .i64 k), .lit (.int .i64 b)])) ∧ W.grownBy w2 (some mt) := by
  obtain ⟨w2, h1, h2, h3⟩ := hT.store (t := 98) (e := 67) (Maps.int_keyed Tryz.underlying3) Tryz.underlying98 (by unfold maxLen; omega) (Maps.keyOf_int_mk Tryz.underlying3 hw) (val := .agg #[.int .i64 at_, .int .i64 k, .int .i64 b]) (d := .agg [.lit (.int .i64 at_), .lit (.int .i64 k), .lit (.int .i64 b)]) (ps := []) rfl
  exact ⟨w2, h1, h2, h3.grown⟩

section
variable {w w' : World}

end

end Go.Proofs.YthehcjjckabljaaGreatDoor
/-
  A new disk with troubles.
-/
namespace Go.Proofs.YthehcjjckabljaaGreatDoor
open Go.RowKit Go.Deep

def DiskC.newT (B : Nat) (Bs : Int) (T : DataW Unit) : DiskC := ⟨B, Bs, true, [], T, ⟨0, 0, 0, 0, 0, 0, 0⟩⟩

theorem TrsAt.below {w w' : World} {sa : Option Addr} {l : List TrA} (h : TrsAt w sa l) (hb : Below w.heap.size w w') : TrsAt w' sa l :=
  ⟨fun k hk => by
    obtain ⟨a, e, h1, c0, c1, c2⟩ := h.read hk hb
    exact ⟨a, e, Nat.lt_of_lt_of_le h1 hb.size, c0, c1, c2⟩, h.wf⟩

section
variable {w : World}

theorem new_repT {w3 : World} {lo p mf mt : Nat} {B : Nat} {Bs : Int} {T : DataW Unit} (hrow : w3.heap[p]? = some (.cells (dRow (.newT B Bs T) mf mt) 102 (0, 0))) (hf : w3.ownsMap Tryz.prog 9 ptrElem mf 0 (.map [])) (ht : ∃ n, w3.ownsMap Tryz.prog 3 trElem mt n T) (h1 : p ≠ mf) (h2 : p ≠ mt) (h3 : mf ≠ mt) (hb : lo ≤ p ∧ lo ≤ mf ∧ lo ≤ mt) : Rep w3 lo p mf mt (.newT B Bs T) :=
  ⟨hrow, hf, ht, by simp [DiskC.newT], by simp [DiskC.foot, DiskC.newT, h1, h2, h3], by simp [DiskC.foot, DiskC.newT]; exact hb, by simp [DiskC.newT]⟩


end

end Go.Proofs.YthehcjjckabljaaGreatDoor
/-
  byCall told exactly: the first trouble of each number.
-/
namespace Go.Proofs.YthehcjjckabljaaGreatDoor
open Go.RowKit Go.Deep

/-- the map holds the first trouble of each number. -/
def TIs (T : DataW Unit) (l : List TrA) : Prop :=
  AllT T ∧ (∀ n : Int, Maps.has T (.int .i64 n) = (l.find? fun t => t.hits n).isSome) ∧ ∀ n : Int, TroubleIs T n (trFirst l n).at_ (trFirst l n).kind (trFirst l n).bytes
theorem TIs.nil : TIs (.map []) [] := ⟨AllT.nil, fun _ => rfl, fun _ => rfl⟩
theorem find_snoc (l : List TrA) (t : TrA) (n : Int) : (l ++ [t]).find? (fun t => t.hits n) = (l.find? fun t => t.hits n).or (if t.hits n then some t else none) := by
  rw [List.find?_append]
  congr 1
  simp only [List.find?_cons, List.find?_nil]
  cases t.hits n <;> rfl
theorem TIs.same {T : DataW Unit} {l : List TrA} {t : TrA} (h : TIs T l) (he : ∀ n, t.hits n = true → (l.find? fun t => t.hits n).isSome = true) : TIs T (l ++ [t]) := by
  have e : ∀ n, (l ++ [t]).find? (fun t => t.hits n) = l.find? fun t => t.hits n := fun n => by
    rw [find_snoc]
    cases hn : t.hits n with
    | false => simp
    | true =>
      have := he n hn
      cases hf : l.find? fun t => t.hits n with
      | none => rw [hf] at this; simp at this
      | some x => rfl
  refine ⟨h.1, fun n => by rw [e n]; exact h.2.1 n, fun n => ?_⟩
  have e2 : trFirst (l ++ [t]) n = trFirst l n := by unfold trFirst; rw [e n]
  rw [e2]
  exact h.2.2 n
theorem hits_at {t : TrA} {n : Int} (h : t.hits n = true) : t.at_ = n ∧ (t.kind = 1 ∨ t.kind = 2) := by
  unfold TrA.hits at h
  simpa using h
theorem hits_of {t : TrA} (h : t.kind = 1 ∨ t.kind = 2) : t.hits t.at_ = true := by
  unfold TrA.hits
  simpa using h
theorem TIs.skip {T : DataW Unit} {l : List TrA} {t : TrA} (h : TIs T l) (h1 : t.kind ≠ 1) (h2 : t.kind ≠ 2) : TIs T (l ++ [t]) :=
  h.same fun n hn => by have := (hits_at hn).2; omega
theorem TIs.taken {T : DataW Unit} {l : List TrA} {t : TrA} (h : TIs T l) (_h1 : t.kind = 1 ∨ t.kind = 2) (hh : Maps.has T (.int .i64 t.at_) = true) : TIs T (l ++ [t]) :=
  h.same fun n hn => by
    have := (hits_at hn).1
    subst this
    rw [← h.2.1]
    exact hh
theorem TIs.isMap {T : DataW Unit} {l : List TrA} (h : TIs T l) : Maps.IsMap T := by
  obtain ⟨e, rfl, _⟩ := h.1
  exact ⟨e, rfl⟩
theorem TIs.put {T : DataW Unit} {l : List TrA} {t : TrA} (h : TIs T l) (h1 : t.kind = 1 ∨ t.kind = 2) (hh : Maps.has T (.int .i64 t.at_) = false) : TIs (T.put (.int .i64 t.at_) (.agg [.lit (.int .i64 t.at_), .lit (.int .i64 t.kind), .lit (.int .i64 t.bytes)])) (l ++ [t]) := by
  have hno : l.find? (fun x => x.hits t.at_) = none := by
    have := h.2.1 t.at_
    rw [hh] at this
    cases hf : l.find? (fun x => x.hits t.at_) with
    | none => rfl
    | some x => rw [hf] at this; simp at this
  have e1 : (l ++ [t]).find? (fun x => x.hits t.at_) = some t := by rw [find_snoc, hno, hits_of h1]; rfl
  have e2 : ∀ n, n ≠ t.at_ → (l ++ [t]).find? (fun x => x.hits n) = l.find? fun x => x.hits n := fun n hn => by
    have : t.hits n = false := by
      cases hq : t.hits n with
      | false => rfl
      | true => exact absurd (hits_at hq).1.symm hn
    rw [find_snoc, this]
    simp
  refine ⟨h.1.put _ _ _ _, fun n => ?_, fun n => ?_⟩
  · by_cases hn : n = t.at_
    · subst hn
      rw [e1, Maps.has_put_same h.isMap (by trivial)]
      rfl
    · rw [e2 n hn, Maps.has_put_other (by simp [hn]), h.2.1]
  · by_cases hn : n = t.at_
    · subst hn
      unfold TroubleIs trFirst
      rw [e1, Maps.atKey_put_same h.isMap (by trivial)]
      rfl
    · have := h.2.2 n
      unfold TroubleIs trFirst at this ⊢
      rw [e2 n hn, Maps.atKey_put_other (by simp [hn]), this]
theorem TIs.from {T : DataW Unit} {l : List TrA} (h : TIs T l) (n : Int) : TFrom T l n := fun m _ => h.2.2 m
section
variable {w w' : World}

set_option maxRecDepth 100000 in
set_option maxHeartbeats 1000000 in
theorem byCall_x {sa : Option Addr} {ca : Nat} {l : List TrA} (hl : TrsAt w sa l) (hlen : l.length ≤ 1099511627776) :
    Calls Tryz.prog 128 #[.slice sa l.length ca] w fun e w' => e = .returned (.map (some w.heap.size)) ∧ (∃ n T, w'.ownsMap Tryz.prog 3 trElem w.heap.size n T ∧ TIs T l) ∧ Below w.heap.size w w' := by
  have hmm := @run_makeMap Tryz.prog
  have HL := hid hl
  have HLN := hid hlen
  clear hl hlen
  go_enter Tryz.func128, Tryz.ntmps128
  go_wp2
  clear hmm
  go_loopw [11] (fun i wr => ∃ (k n : Nat) (T : DataW Unit), k ≤ l.length ∧ i = .int .i64 k ∧ n ≤ k ∧ wr.ownsMap Tryz.prog 3 trElem w.heap.size n T ∧ TIs T (l.take k) ∧ Below w.heap.size w wr) (fun i _ => l.length - (intOf i).toNat)
  case atStart =>
    exact ⟨0, 0, .map [], Nat.zero_le _, rfl, Nat.le_refl _, empty_map _ _ _ _ (heap_alloc_new w _), TIs.nil, (Below.refl _ w).alloc (Nat.le_refl _) _⟩
  case round =>
    obtain ⟨k, n, T, hk, rfl, hnk, hm, hT, hb⟩ := hrel
    by_cases hlt : k < l.length
    · obtain ⟨a, rfl, hblk, c0, c1, c2⟩ := HL.out.read hlt hb
      have hwf := HL.out.wf k hlt
      obtain ⟨at_, e0⟩ : ∃ x, x = l[k].at_ := ⟨_, rfl⟩
      obtain ⟨kd, e1⟩ : ∃ x, x = l[k].kind := ⟨_, rfl⟩
      obtain ⟨by_, e2⟩ : ∃ x, x = l[k].bytes := ⟨_, rfl⟩
      rw [← e0] at c0 hwf
      rw [← e1] at c1
      rw [← e2] at c2
      have HN : Hid ((kd = 1 ∨ kd = 2 → Maps.has T (.int .i64 at_) = true → TIs T (l.take (k + 1))) ∧ (kd = 1 ∨ kd = 2 → Maps.has T (.int .i64 at_) = false → TIs (T.put (.int .i64 at_) (.agg [.lit (.int .i64 at_), .lit (.int .i64 kd), .lit (.int .i64 by_)])) (l.take (k + 1))) ∧ (kd ≠ 1 → kd ≠ 2 → TIs T (l.take (k + 1)))) := by
        rw [e0, e1, e2, List.take_succ_eq_append_getElem hlt]
        exact ⟨fun h1 h2 => hT.taken h1 h2, fun h1 h2 => hT.put h1 h2, fun h1 h2 => hT.skip h1 h2⟩
      clear e0 e1 e2
      have hkI : (k : Int) < (l.length : Int) := by omega
      have hk0 : (0 : Int) ≤ (k : Int) := by omega
      have hwk := wrap_step hlt HLN.out
      obtain ⟨a1, k1, b1, ht⟩ := hT.1.trouble at_
      have hlw : w.heap.size < wr.heap.size := hm.lt
      have HM := hid hm
      have HB := hid hb
      have HT := hid hT
      have HLT := hid hlt
      have HNK := hid hnk
      have HBX : Hid (∀ o : Obj, Below w.heap.size w (wr.alloc o)) := hid fun o => hb.alloc hb.size o
      clear hk hlt hnk
      by_cases h1 : kd = 1
      · subst h1
        have hmx := hm.alloc (.cells #[.int .i64 at_, .int .i64 1, .int .i64 by_] 67)
        have hlook := tr_look hmx ht hwf
        by_cases hh : Maps.has T (.int .i64 at_) = true
        · have HN1 := hid (HN.out.1 (.inl rfl) hh)
          rw [hh] at hlook
          clear hm hb hT ht hmx hwf hh
          go_wp2
          try rw [hwk]
          exact ⟨⟨k + 1, n, T, HLT.out, next_num k, Nat.le_succ_of_le HNK.out, (HM.out.alloc _).alloc _, HN1.out, ((HB.out.alloc HB.out.size _).alloc (Nat.le_trans HB.out.size (by simp)) _)⟩, less_step HLT.out⟩
        · have hh' : Maps.has T (.int .i64 at_) = false := by simpa using hh
          have HN2 := hid (HN.out.2.1 (.inl rfl) hh')
          rw [hh'] at hlook
          obtain ⟨w3, hst, hm3, hg3⟩ := tr_store (hmx.alloc (.cells #[.int .i64 a1, .int .i64 k1, .int .i64 b1] 67)) (Nat.lt_of_le_of_lt HNK.out (Nat.lt_of_lt_of_le HLT.out HLN.out)) hwf 1 by_
          have hb3 : Below w.heap.size w w3 := Below.grown ((HB.out.alloc HB.out.size _).alloc (Nat.le_trans HB.out.size (by simp)) _) hg3 (Nat.le_trans HB.out.size (by simp; omega)) (fun k h => by simp at h; omega)
          have HM3 := hid hm3
          have HB3 := hid hb3
          clear hm hb hT ht hmx hwf hh hh' hm3 hb3 hg3
          go_wp2
          try rw [hwk]
          exact ⟨⟨k + 1, n + 1, _, HLT.out, next_num k, Nat.succ_le_succ HNK.out, HM3.out, HN2.out, HB3.out⟩, less_step HLT.out⟩
      · by_cases h2 : kd = 2
        · subst h2
          clear h1
          have hmx := hm.alloc (.cells #[.int .i64 at_, .int .i64 2, .int .i64 by_] 67)
          have hlook := tr_look hmx ht hwf
          by_cases hh : Maps.has T (.int .i64 at_) = true
          · have HN1 := hid (HN.out.1 (.inr rfl) hh)
            rw [hh] at hlook
            clear hm hb hT ht hmx hwf hh
            go_wp2
            try rw [hwk]
            exact ⟨⟨k + 1, n, T, HLT.out, next_num k, Nat.le_succ_of_le HNK.out, (HM.out.alloc _).alloc _, HN1.out, ((HB.out.alloc HB.out.size _).alloc (Nat.le_trans HB.out.size (by simp)) _)⟩, less_step HLT.out⟩
          · have hh' : Maps.has T (.int .i64 at_) = false := by simpa using hh
            have HN2 := hid (HN.out.2.1 (.inr rfl) hh')
            rw [hh'] at hlook
            obtain ⟨w3, hst, hm3, hg3⟩ := tr_store (hmx.alloc (.cells #[.int .i64 a1, .int .i64 k1, .int .i64 b1] 67)) (Nat.lt_of_le_of_lt HNK.out (Nat.lt_of_lt_of_le HLT.out HLN.out)) hwf 2 by_
            have hb3 : Below w.heap.size w w3 := Below.grown ((HB.out.alloc HB.out.size _).alloc (Nat.le_trans HB.out.size (by simp)) _) hg3 (Nat.le_trans HB.out.size (by simp; omega)) (fun k h => by simp at h; omega)
            have HM3 := hid hm3
            have HB3 := hid hb3
            clear hm hb hT ht hmx hwf hh hh' hm3 hb3 hg3
            go_wp2
            try rw [hwk]
            exact ⟨⟨k + 1, n + 1, _, HLT.out, next_num k, Nat.succ_le_succ HNK.out, HM3.out, HN2.out, HB3.out⟩, less_step HLT.out⟩
        · have HN3 := hid (HN.out.2.2 h1 h2)
          have n1 : (kd != 1) = true := by simp [h1]
          have n2 : (kd != 2) = true := by simp [h2]
          clear hm hb hT ht h1 h2 hwf
          go_wp2
          try rw [hwk]
          exact ⟨⟨k + 1, n, T, HLT.out, next_num k, Nat.le_succ_of_le HNK.out, HM.out.alloc _, HN3.out, HBX.out _⟩, less_step HLT.out⟩
    · have hend : ¬ (k : Int) < (l.length : Int) := by omega
      have HM := hid (⟨n, T, hm, by rw [List.take_of_length_le (by omega)] at hT; exact hT⟩ : ∃ n T, wr.ownsMap Tryz.prog 3 trElem w.heap.size n T ∧ TIs T l)
      have HB := hid hb
      clear hm hT hb hnk hk hlt
      go_wp2
      go_ret
      exact ⟨rfl, HM.out, HB.out⟩

set_option maxRecDepth 100000 in
set_option maxHeartbeats 600000 in
theorem empty_x {B : Nat} {Bs : Int} {sa : Option Addr} {ca : Nat} {l : List TrA} (hl : TrsAt w sa l) (hlen : l.length ≤ 1099511627776) :
    Calls Tryz.prog 77 #[.agg #[.int .i64 B, .int .i64 Bs, .slice sa l.length ca]] w fun e w' => ∃ p mf mt T, e = .returned (ptr p) ∧ Rep w' w.heap.size p mf mt (.newT B Bs T) ∧ TIs T l ∧ Below w.heap.size w w' := by
  have hmm := @run_makeMap Tryz.prog
  have HL := hid (fun (W : World) (hb : Below w.heap.size w W) => byCall_x (ca := ca) (hl.below hb) hlen)
  have HX : Hid (Below w.heap.size w (w.alloc (.cells #[.int .i64 B, .int .i64 Bs, .slice sa l.length ca] 79))) := hid ((Below.refl _ w).alloc (Nat.le_refl _) _)
  have HY : Hid (∀ o, Below w.heap.size w (((w.alloc (.cells #[.int .i64 B, .int .i64 Bs, .slice sa l.length ca] 79)).alloc o).drew)) := hid fun o => (((Below.refl _ w).alloc (Nat.le_refl _) _).alloc (by simp) _).drew
  have HB3 : Hid (∀ W w2 : World, Below W.heap.size W w2 → W.cell? ⟨w.heap.size, 0, none⟩ = some (.int .i64 B) → W.cell? ⟨w.heap.size, 1, none⟩ = some (.int .i64 Bs) → W.cell? ⟨w.heap.size, 2, none⟩ = some (.slice sa l.length ca) →
      w2.cell? ⟨w.heap.size, 0, none⟩ = some (.int .i64 B) ∧ w2.cell? ⟨w.heap.size, 1, none⟩ = some (.int .i64 Bs) ∧ w2.cell? ⟨w.heap.size, 2, none⟩ = some (.slice sa l.length ca)) := hid fun W w2 hb h0 h1 h2 =>
    ⟨(hb.cell (World.block_lt_of_cell? W _ h0)).trans h0, (hb.cell (World.block_lt_of_cell? W _ h1)).trans h1, (hb.cell (World.block_lt_of_cell? W _ h2)).trans h2⟩
  clear hl hlen
  go_enter Tryz.func77, Tryz.ntmps77
  go_wp2
  go_region_held3 (fun V => V.cell? ⟨w.heap.size, 0, none⟩ = some (.int .i64 B) ∧ V.cell? ⟨w.heap.size, 1, none⟩ = some (.int .i64 Bs) ∧ V.cell? ⟨w.heap.size, 2, none⟩ = some (.slice sa l.length ca)) (go_keep)
    (first
      | (go_at_call 128; refine (HL.out _ HX.out.drew).mono ?_; rintro e w2 ⟨rfl, hT2, hb2⟩; have z2 := HB3.out _ w2 hb2 (by simp) (by simp) (by simp); have HT2 := hid hT2; have HBB := hid (HX.out.drew.trans (hb2.mono (by first | (simp; done) | (simp; omega)))); clear hT2 hb2)
      | (go_at_call 128; refine (HL.out _ (HY.out _)).mono ?_; rintro e w2 ⟨rfl, hT2, hb2⟩; have z2 := HB3.out _ w2 hb2 (by simp) (by simp) (by simp); have HT2 := hid hT2; have HBB := hid ((HY.out _).trans (hb2.mono (by first | (simp; done) | (simp; omega)))); have HOB := hid hb2; clear hT2 hb2))
  · go_wp2
    go_ret
    obtain ⟨n, T, hT, hA⟩ := HT2.out
    have hT' : w2.ownsMap Tryz.prog 3 trElem (w.heap.size + 1 + 1) n T := by simpa using hT
    have hz := hT'.lt
    have hm : w2.heap[w.heap.size + 1]? = some (.map #[] 0) := (HOB.out.block _ (by simp)).trans (heap_two w (.cells #[.int .i64 B, .int .i64 Bs, .slice sa l.length ca] 79) (.map #[] 0)).2
    refine ⟨w2.heap.size, w.heap.size + 1, w.heap.size + 1 + 1, T, rfl, new_repT (heap_alloc_new w2 _) (empty_map _ _ _ _ ((Below.heap_alloc w2 _ _ (by omega)).trans hm)) ⟨n, hT'.alloc _⟩ (by omega) (by omega) (by omega) ⟨by omega, by omega, by omega⟩, hA, HBB.out.alloc HBB.out.size _⟩
  · go_wp2
    go_ret
    obtain ⟨n, T, hT, hA⟩ := HT2.out
    have hT' : w2.ownsMap Tryz.prog 3 trElem (w.heap.size + 1) n T := by simpa using hT
    have hz := hT'.lt
    have h2 := heap_two w2 (.map #[] 0) (.cells #[.int .i64 B, .int .i64 Bs, .bool true, .map (some w2.heap.size), .map (some (w.heap.size + 1)), .int .i64 0, .int .i64 0, .int .i64 0, .int .i64 0, .int .i64 0, .int .i64 0, .int .i64 0] 102)
    refine ⟨w2.heap.size + 1, w2.heap.size, w.heap.size + 1, T, rfl, new_repT h2.2 (empty_map _ _ _ _ h2.1) ⟨n, (hT'.alloc _).alloc _⟩ (by omega) (by omega) (by omega) ⟨by omega, by omega, by omega⟩, hA, (HBB.out.alloc HBB.out.size _).alloc (Nat.le_trans HBB.out.size (by simp)) _⟩

end

end Go.Proofs.YthehcjjckabljaaGreatDoor
/-
  New: refused and granted, the landed one and the document's.
-/
namespace Go.Proofs.YthehcjjckabljaaGreatDoor
open Go.RowKit Go.Deep
set_option maxRecDepth 100000
/-- a setup that a disk may have. -/
def SetOk (B Bs : Int) : Prop := 64 ≤ B ∧ B ≤ 65536 ∧ B % 32 = 0 ∧ 0 ≤ Bs ∧ Bs ≤ 1099511627776
theorem SetOk.not {B Bs : Int} (h : ¬ SetOk B Bs) : B < 64 ∨ (¬ B < 64 ∧ 65536 < B) ∨ (¬ B < 64 ∧ ¬ 65536 < B ∧ ¬ B % 32 = 0) ∨ (¬ B < 64 ∧ ¬ 65536 < B ∧ B % 32 = 0 ∧ Bs < 0) ∨ (¬ B < 64 ∧ ¬ 65536 < B ∧ B % 32 = 0 ∧ ¬ Bs < 0 ∧ 1099511627776 < Bs) := by
  unfold SetOk at h
  omega
section
variable {w : World} {E : Nat → Addr} {lo : Nat}
set_option maxHeartbeats 1000000 in
theorem checkSetup_bad (S : ∀ o, Sents (w.alloc o) E) {B Bs : Int} {ga : Option Addr} {gn gc : Nat} (h : ¬ SetOk B Bs) :
    Calls Tryz.prog 126 #[.agg #[.int .i64 B, .int .i64 Bs, .slice ga gn gc]] w fun e w' => e = .returned (errV E 0) ∧ Below w.heap.size w w' := by
  have c0 : ∀ o : Obj, (w.alloc o).cell? ⟨10, 0, none⟩ = some (errV E 0) := fun o => (S o).var0
  have h2 := SetOk.not h
  clear h S
  rcases h2 with x1 | ⟨x1, x2⟩ | ⟨x1, x2, x3⟩ | ⟨x1, x2, x3, x4⟩ | ⟨x1, x2, x3, x4, x5⟩
  all_goals
    go_enter Tryz.func126, Tryz.ntmps126
    go_wp2
    go_ret
    exact ⟨rfl, (Below.refl _ w).alloc (Nat.le_refl _) _⟩
end
end Go.Proofs.YthehcjjckabljaaGreatDoor
