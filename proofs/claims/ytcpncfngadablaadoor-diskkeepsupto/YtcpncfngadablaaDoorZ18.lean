import Derived.Test.YtcpncfngadablaaDoorZ08
import Derived.Test.YtcpncfngadablaaDoorZ06
import Derived.Test.YtcpncfngadablaaDoorZ16
namespace Go.Proofs.YtcpncfngadablaaDoor
open Go.RowKit Go.Deep

section
variable {w w' : World} {E : Nat → Addr} {lo p mf mt : Nat} {D : DiskC}

/-- the block's length of 'sane'. -/
def saneB (n : Int) : Int := 64 + 32 * (n % 4)

theorem sane_num (n : Int) : (0 ≤ n.tmod 4 ∧ n.tmod 4 = n % 4 ∧ n.tmod 4 ≤ 3) ∨ (n.tmod 4 < 0 ∧ n.tmod 4 + 4 = n % 4 ∧ -3 ≤ n.tmod 4) := by
  by_cases h : 0 ≤ n
  · rw [Int.tmod_eq_emod_of_nonneg h]
    omega
  · have h1 : n.tmod 4 = -((-n) % 4) := by
      have e : n = -(-n) := by omega
      rw [e, Int.neg_tmod, Int.tmod_eq_emod_of_nonneg (by omega)]
      simp
    rw [h1]
    omega

set_option maxRecDepth 100000 in
set_option maxHeartbeats 400000 in
theorem sane_any (n : Int) (w : World) :
    Calls Tryd.prog 6 #[.int .i64 n] w fun e w' => e = .returned (.agg #[.int .i64 (saneB n), .int .i64 1099511627776, .slice none 0 0]) ∧ Below w.heap.size w w' := by
  have hm := sane_num n
  rcases hm with ⟨h1, h2, h3⟩ | ⟨h1, h2, h3⟩
  · have HB : Hid (64 + 32 * n.tmod 4 = saneB n) := by show _ = _; unfold saneB; rw [h2]
    clear h2
    go_enter Tryd.func6, Tryd.ntmps6
    go_wp2
    refine bodyPost_ret (v := .agg #[.int .i64 (64 + 32 * n.tmod 4), .int .i64 1099511627776, .slice none 0 0]) (by simp [results, Tryd.results6, go_sem]) rfl ?_
    rw [HB.out]
    exact ⟨rfl, (Below.refl _ w).alloc (Nat.le_refl _) _⟩
  · have HB : Hid (64 + 32 * (n.tmod 4 + 4) = saneB n) := by show _ = _; unfold saneB; rw [h2]
    clear h2
    go_enter Tryd.func6, Tryd.ntmps6
    go_wp2
    refine bodyPost_ret (v := .agg #[.int .i64 (64 + 32 * (n.tmod 4 + 4)), .int .i64 1099511627776, .slice none 0 0]) (by simp [results, Tryd.results6, go_sem]) rfl ?_
    rw [HB.out]
    exact ⟨rfl, (Below.refl _ w).alloc (Nat.le_refl _) _⟩

set_option maxRecDepth 100000 in
set_option maxHeartbeats 400000 in
theorem checkSetup_ok {B : Int} {Bs : Int} {v : Value} {ga : Option Addr} {gn gc : Nat} (hv : v = .slice ga gn gc) (h1 : 64 ≤ B) (h2 : B ≤ 65536) (h3 : B % 32 = 0) (h4 : 0 ≤ Bs) (h5 : Bs ≤ 1099511627776) (w : World) :
    Calls Tryd.prog 16 #[.agg #[.int .i64 B, .int .i64 Bs, v]] w fun e w' => e = .returned .nilIface ∧ Below w.heap.size w w' := by
  subst hv
  have h3' : (B.tmod 32 != 0) = false := by rw [Int.tmod_eq_emod_of_nonneg (by omega), h3]; decide
  go_enter Tryd.func16, Tryd.ntmps16
  go_wp2
  go_ret
  exact ⟨rfl, (Below.refl _ w).alloc (Nat.le_refl _) _⟩

set_option maxRecDepth 100000 in
set_option maxHeartbeats 400000 in
theorem byCall_nil (w : World) :
    Calls Tryd.prog 40 #[.slice none 0 0] w fun e w' => e = .returned (.map (some w.heap.size)) ∧ w' = w.alloc (.map #[] 0) := by
  have hmm := @run_makeMap Tryd.prog
  go_enter Tryd.func40, Tryd.ntmps40
  go_wp2
  refine wp_loop_rounds 1 ?_
  rw [rounds_succ]
  go_wp2
  go_ret
  exact ⟨rfl, rfl⟩

/-- a new disk. -/
def DiskC.new (B : Nat) (Bs : Int) : DiskC := ⟨B, Bs, true, [], .map [], ⟨0, 0, 0, 0, 0, 0, 0⟩⟩

theorem Rep.new {B : Nat} {Bs : Int} (hrow : w.heap[p]? = some (.cells (dRow (.new B Bs) mf mt) 72 (0, 0))) (hf : w.ownsMap Tryd.prog 9 ptrElem mf 0 (.map [])) (ht : w.ownsMap Tryd.prog 3 trElem mt 0 (.map [])) (h1 : p ≠ mf) (h2 : p ≠ mt) (h3 : mf ≠ mt) (hb : lo ≤ p ∧ lo ≤ mf ∧ lo ≤ mt) : Rep w lo p mf mt (.new B Bs) :=
  ⟨hrow, hf, ⟨0, ht⟩, by simp [DiskC.new], by simp [DiskC.foot, DiskC.new, h1, h2, h3], by simp [DiskC.foot, DiskC.new]; exact hb, by simp [DiskC.new]⟩

theorem empty_map (w : World) (b : Nat) (k : TypeId) (R : Value → Option (DataW Unit × List MemPlace)) (h : w.heap[b]? = some (.map #[] 0)) : w.ownsMap Tryd.prog k R b 0 (.map []) :=
  ⟨#[], 0, h, ⟨by simp, MapKept.stamped_empty 0, by simp⟩, Nat.le_refl _, rfl⟩

theorem heap_four (w : World) (o1 o2 o3 o4 : Obj) : ((((w.alloc o1).alloc o2).alloc o3).alloc o4).heap[w.heap.size + 1]? = some o2 ∧ ((((w.alloc o1).alloc o2).alloc o3).alloc o4).heap[w.heap.size + 1 + 1]? = some o3 ∧ ((((w.alloc o1).alloc o2).alloc o3).alloc o4).heap[w.heap.size + 1 + 1 + 1]? = some o4 := by
  have h1 : (w.alloc o1).heap.size = w.heap.size + 1 := by simp
  have h2 : ((w.alloc o1).alloc o2).heap.size = w.heap.size + 1 + 1 := by simp
  have h3 : (((w.alloc o1).alloc o2).alloc o3).heap.size = w.heap.size + 1 + 1 + 1 := by simp
  have a := heap_two (w.alloc o1) o2 o3
  rw [h1] at a
  refine ⟨?_, ?_, ?_⟩
  · rw [Below.heap_alloc _ _ _ (by omega)]; exact a.1
  · rw [Below.heap_alloc _ _ _ (by omega)]; exact a.2
  · rw [← h3]; exact heap_alloc_new _ _

theorem new_rep {B : Nat} {Bs : Int} (w : World) (o : Obj) (mf mt : Nat) (h : (mf = w.heap.size + 1 ∧ mt = w.heap.size + 1 + 1) ∨ (mf = w.heap.size + 1 + 1 ∧ mt = w.heap.size + 1)) :
    Rep ((((w.alloc o).alloc (.map #[] 0)).alloc (.map #[] 0)).alloc (.cells (dRow (.new B Bs) mf mt) 72)).drew w.heap.size (w.heap.size + 1 + 1 + 1) mf mt (.new B Bs) ∧ Below w.heap.size w ((((w.alloc o).alloc (.map #[] 0)).alloc (.map #[] 0)).alloc (.cells (dRow (.new B Bs) mf mt) 72)).drew := by
  have hf := heap_four w o (.map #[] 0) (.map #[] 0) (.cells (dRow (.new B Bs) mf mt) 72)
  refine ⟨Rep.new hf.2.2 (empty_map _ _ _ _ ?_) (empty_map _ _ _ _ ?_) ?_ ?_ ?_ ⟨by omega, by omega, by omega⟩, ((((Below.refl _ w).alloc (Nat.le_refl _) _).alloc (by simp) _).alloc (by simp; omega) _).alloc (by simp; omega) _ |>.drew⟩
  · rcases h with ⟨rfl, _⟩ | ⟨rfl, _⟩
    · exact hf.1
    · exact hf.2.1
  · rcases h with ⟨_, rfl⟩ | ⟨_, rfl⟩
    · exact hf.2.1
    · exact hf.1
  · omega
  · omega
  · omega

theorem Rep.lower (R : Rep w lo p mf mt D) {n : Nat} (h : n ≤ lo) : Rep w n p mf mt D := ⟨R.row, R.files, R.troubles, R.each, R.apart, fun b hb => Nat.le_trans h (R.base b hb), R.names⟩

theorem box_up3 {a b c : Value} {t : TypeId} {w1 : World} (h : Below (w.alloc (.cells #[a, b, c] t)).heap.size (w.alloc (.cells #[a, b, c] t)) w1) : w1.cell? ⟨w.heap.size, 0, none⟩ = some a ∧ w1.cell? ⟨w.heap.size, 1, none⟩ = some b ∧ w1.cell? ⟨w.heap.size, 2, none⟩ = some c ∧ w.heap.size < w1.heap.size := by
  have hr : w1.heap[w.heap.size]? = some (.cells #[a, b, c] t (0, 0)) := (h.block _ (by simp)).trans (heap_alloc_new w _)
  exact ⟨cell_row hr 0, cell_row hr 1, cell_row hr 2, lt_of_block hr⟩

set_option maxRecDepth 100000 in
set_option maxHeartbeats 400000 in
theorem empty_any {B : Nat} {Bs : Int} (w : World) :
    Calls Tryd.prog 18 #[.agg #[.int .i64 B, .int .i64 Bs, .slice none 0 0]] w fun e w' => ∃ p mf mt, e = .returned (ptr p) ∧ Rep w' w.heap.size p mf mt (.new B Bs) ∧ Below w.heap.size w w' := by
  have hmm := @run_makeMap Tryd.prog
  go_enter Tryd.func18, Tryd.ntmps18
  go_wp2
  go_region_held3 (fun V => V.cell? ⟨w.heap.size, 0, none⟩ = some (.int .i64 B) ∧ V.cell? ⟨w.heap.size, 1, none⟩ = some (.int .i64 Bs) ∧ V.cell? ⟨w.heap.size, 2, none⟩ = some (.slice none 0 0)) (go_keep)
    (first | (go_at_call 40; refine (byCall_nil _).mono ?_; rintro e w2 ⟨rfl, rfl⟩))
  all_goals
    go_wp2
    go_ret
  · have h := new_rep (B := B) (Bs := Bs) w (.cells #[.int .i64 B, .int .i64 Bs, .slice none 0 0] 29) (w.heap.size + 1) (w.heap.size + 1 + 1) (.inl ⟨rfl, rfl⟩)
    exact ⟨_, _, _, rfl, h.1, h.2⟩
  · have h := new_rep (B := B) (Bs := Bs) w (.cells #[.int .i64 B, .int .i64 Bs, .slice none 0 0] 29) (w.heap.size + 1 + 1) (w.heap.size + 1) (.inr ⟨rfl, rfl⟩)
    exact ⟨_, _, _, rfl, h.1, h.2⟩

set_option maxRecDepth 100000 in
set_option maxHeartbeats 400000 in
theorem New_ok {B : Nat} {Bs : Int} (h1 : 64 ≤ B) (h2 : B ≤ 65536) (h3 : (B : Int) % 32 = 0) (h4 : 0 ≤ Bs) (h5 : Bs ≤ 1099511627776) (w : World) :
    Calls Tryd.prog 5 #[.agg #[.int .i64 B, .int .i64 Bs, .slice none 0 0]] w fun e w' => ∃ p mf mt, e = .returned (.tuple #[ptr p, .int .i64 0]) ∧ Rep w' w.heap.size p mf mt (.new B Bs) ∧ Below w.heap.size w w' := by
  have HC := hid (fun W => checkSetup_ok (B := (B : Int)) (Bs := Bs) (v := .slice none 0 0) rfl (by omega) (by omega) h3 h4 h5 W)
  clear h3
  go_enter Tryd.func5, Tryd.ntmps5
  go_wp2_with (first
    | (go_at_call 16; refine (HC.out _).mono ?_; rintro e w1 ⟨rfl, hb1⟩; obtain ⟨q0, q1, q2, lz⟩ := box_up3 hb1; have HB1 := hid hb1; clear hb1)
    | (go_at_call 18; refine (empty_any _).mono ?_; rintro e w2 ⟨p, mf, mt, rfl, hR, hb2⟩))
  go_ret2
  have h0 : Below w.heap.size w w1 := ((Below.refl _ w).alloc (Nat.le_refl _) _).trans (HB1.out.mono (by simp))
  exact ⟨p, mf, mt, rfl, hR.lower (by omega), h0.trans (hb2.mono (by omega))⟩
end
end Go.Proofs.YtcpncfngadablaaDoor
namespace Go.Proofs.YtcpncfngadablaaDoor
open Go.RowKit Go.Deep

section
variable {w w' : World} {E : Nat → Addr} {lo p mf mt : Nat} {D : DiskC}

theorem fileOf_fin {B : Nat} {o : Obj} {w1 : World} {sv : Value} {bs : List Nat} {blocks : List (List UInt8)} (x : Bool) (hb : BlocksAt w1 B sv bs blocks) (hf : FreshB (w.alloc o).heap.size sv bs) (ht : Below (w.alloc o).heap.size (w.alloc o) w1) :
    FileAt (w1.alloc (.cells #[.int .i64 (if x then 1 else 0), sv] 97)) B ⟨w1.heap.size, sv, bs⟩ ⟨x, blocks⟩ ∧ (∀ b ∈ (⟨w1.heap.size, sv, bs⟩ : Lay).foot, w.heap.size ≤ b) ∧ (⟨w1.heap.size, sv, bs⟩ : Lay).foot.Nodup ∧ ∀ o' : Obj, Below w.heap.size w (w1.alloc o') := by
  have hs : (w.alloc o).heap.size = w.heap.size + 1 := by simp
  have hs1 := ht.size
  have hk := hb.kept (w' := w1.alloc (.cells #[.int .i64 (if x then 1 else 0), sv] 97)) fun b hb' => Below.heap_alloc w1 _ b (by rcases hb' with h' | h'; exact hb.lt.1 b h'; exact hb.lt.2 b h')
  refine ⟨⟨heap_alloc_new w1 _, hk.own, hk.bytes⟩, fun b hb' => ?_, ?_, fun o' => ?_⟩
  · simp only [Lay.foot, List.mem_cons, List.mem_append, Option.mem_toList] at hb'
    rcases hb' with rfl | h | h
    · omega
    · have := hf.1 b h; omega
    · have := hf.2.1 b h; omega
  · show (w1.heap.size :: (sv.ownBlock.toList ++ bs)).Nodup
    rw [List.nodup_cons]
    refine ⟨fun h => ?_, hf.2.2⟩
    rcases List.mem_append.1 h with h | h
    · have := hb.lt.1 _ (by simpa using h); omega
    · have := hb.lt.2 _ h; omega
  · exact (((Below.refl _ w).alloc (Nat.le_refl _) o).trans (ht.mono (by omega))).alloc (by omega) _

set_option maxRecDepth 100000 in
set_option maxHeartbeats 400000 in
theorem fileOf_any {B : Nat} {s : ByteArray} {x : Bool} {sv : Value} {bs : List Nat} {blocks : List (List UInt8)} (h : BlocksAt w B sv bs blocks) (hB1 : 64 ≤ B) (hB2 : B ≤ 65536) (hn : blocks.length ≤ 1099511627776) :
    Calls Tryd.prog 32 #[.agg #[.string s, .bool x, sv]] w fun e w' => ∃ L : Lay, e = .returned (ptr L.fb) ∧ FileAt w' B L ⟨x, blocks⟩ ∧ (∀ b ∈ L.foot, w.heap.size ≤ b) ∧ L.foot.Nodup ∧ Below w.heap.size w w' := by
  have HC := hid (fun o : Obj => copyBlocks_any (w := w.alloc o) (h.kept fun b hb => Below.heap_alloc w o b (by rcases hb with h' | h'; exact h.lt.1 b h'; exact h.lt.2 b h')) hB1 hB2 hn)
  obtain ⟨ga, gn, gc, hsv⟩ := h.own_slice
  rw [hsv] at HC
  rw [hsv]
  clear h hsv
  cases x
  all_goals
    go_enter Tryd.func32, Tryd.ntmps32
    go_wp2_with (go_at_call 51; refine (HC.out _).mono ?_; rintro e w1 ⟨sv', bs', rfl, hb1, hf1, ht1⟩; have HB1 := hid hb1; have HF1 := hid hf1; have HT1 := hid ht1; obtain ⟨ka, kn, kc, hk⟩ := hb1.own_slice; clear hb1 hf1 ht1)
    go_ret
    first
      | (obtain ⟨h1, h2, h3, h4⟩ := fileOf_fin false HB1.out HF1.out HT1.out
         rw [hk] at h1 h2 h3
         exact ⟨_, rfl, h1, h2, h3, h4 _⟩)
      | (obtain ⟨h1, h2, h3, h4⟩ := fileOf_fin true HB1.out HF1.out HT1.out
         rw [hk] at h1 h2 h3
         exact ⟨_, rfl, h1, h2, h3, h4 _⟩)

theorem less_before : ∀ a b : List UInt8, Op.bytesLess a b = bytesBefore a b
  | [], [] => rfl
  | _ :: _, [] => rfl
  | [], _ :: _ => rfl
  | a :: x, b :: y => by simp only [Op.bytesLess, bytesBefore, less_before x y]

/-- a name behind another is not '<=' it. -/
theorem behind {a b : List UInt8} (h : bytesBefore a b = true) : (Op.bytesLess b a || b == a) = false := by
  rw [less_before]
  have hne : b ≠ a := fun e => by subst e; rw [WideAt.bytes_irrefl] at h; cases h
  have h1 : bytesBefore b a = false := by
    cases hx : bytesBefore b a with
    | false => rfl
    | true =>
      have := WideShapes.bytes_trans _ _ _ h hx
      rw [WideAt.bytes_irrefl] at this
      cases this
  simp [h1, hne]

set_option maxRecDepth 100000 in
set_option maxHeartbeats 400000 in
theorem checkFile_ok {B : Nat} {s last : ByteArray} {x : Bool} {sv : Value} {bs : List Nat} {blocks : List (List UInt8)} (h : BlocksAt w B sv bs blocks) (hn : blocks.length ≤ 1099511627776) (hs : nameB s = true) (hl : (Op.bytesLess s.toList last.toList || s.toList == last.toList) = false) :
    Calls Tryd.prog 52 #[.agg #[.string s, .bool x, sv], .string last, .int .i64 B] w fun e w' => e = .returned .nilIface ∧ Below w.heap.size w w' := by
  by_cases h0 : blocks.length = 0
  · obtain ⟨a1, c1, e1⟩ := h.slice0 h0
    rw [e1]
    clear h e1 h0
    go_enter Tryd.func52, Tryd.ntmps52
    go_wp2_with (go_at_call 69; refine (isName_any _ _).mono ?_; rintro e w' ⟨rfl, rfl⟩)
    refine wp_loop_rounds 1 ?_
    rw [rounds_succ]
    go_wp2
    go_ret
    exact ⟨rfl, (Below.refl _ w).alloc (Nat.le_refl _) _⟩
  · obtain ⟨G1, gc1, e1⟩ := h.slice1 h0
    have H1 := hid h
    have E1 := hid e1
    rw [e1]
    clear h e1
    go_enter Tryd.func52, Tryd.ntmps52
    go_wp2_with (go_at_call 69; refine (isName_any _ _).mono ?_; rintro e w' ⟨rfl, rfl⟩)
    go_loop [23] (fun i => ∃ k : Nat, k ≤ blocks.length ∧ i = .int .i64 k) (fun i => blocks.length - (intOf i).toNat)
    case atStart => exact ⟨0, Nat.zero_le _, rfl⟩
    case round =>
      obtain ⟨k, hk, rfl⟩ := hrel
      by_cases hlt : k < blocks.length
      · obtain ⟨g, cap, b, e1, cG, hlen, hby, _⟩ := H1.out.at hlt
        rw [E1.out] at e1
        simp only [Value.slice.injEq, Option.some.injEq, Addr.mk.injEq] at e1
        obtain ⟨⟨rfl, _⟩, hgc⟩ := e1
        have lG := World.block_lt_of_cell? w _ cG
        have lG' : G1 < w.heap.size := lG
        clear hgc hby hlen lG
        go_wp2
        go_round
        case rel => exact ⟨k + 1, by omega, by go_num⟩
        case measure => simp [intOf]; omega
      · go_wp2
        go_ret
        exact ⟨rfl, (Below.refl _ w).alloc (Nat.le_refl _) _⟩
end
end Go.Proofs.YtcpncfngadablaaDoor
namespace Go.Proofs.YtcpncfngadablaaDoor
open Go.RowKit Go.Deep

/-- the name ahead of file k. -/
def lastN (l : List SFile) (k : Nat) : List UInt8 := match k with | 0 => [] | j + 1 => (l[j]?.map SFile.name).getD []
/-- the blocks of the first k files. -/
def usedN (l : List SFile) (k : Nat) : Nat := ((l.take k).map fun e => e.file.blocks.length).sum

theorem usedN_succ {l : List SFile} {k : Nat} {e : SFile} (h : l[k]? = some e) : usedN l (k + 1) = usedN l k + e.file.blocks.length := by
  unfold usedN
  obtain ⟨hk, rfl⟩ := List.getElem?_eq_some_iff.1 h
  rw [List.take_succ_eq_append_getElem hk, List.map_append, List.sum_append]
  simp only [List.map_cons, List.map_nil, List.sum_cons, List.sum_nil, Nat.add_zero]
theorem usedN_le (l : List SFile) (k : Nat) : usedN l k ≤ usedN l l.length := by
  unfold usedN
  rw [List.take_length]
  have h := congrArg (fun x => (x.map fun e : SFile => e.file.blocks.length).sum) (List.take_append_drop k l)
  simp only [List.map_append, List.sum_append] at h
  omega

/-- what Mount asks of a state's files. -/
structure GoodL (l : List SFile) : Prop where
  names : ∀ e ∈ l, nameB ⟨e.name.toArray⟩ = true
  rising : l.Pairwise fun a b => bytesBefore a.name b.name = true
  few : l.length ≤ 1099511627776
  blocks : usedN l l.length ≤ 1099511627776

theorem GoodL.one {l : List SFile} (h : GoodL l) {k : Nat} {e : SFile} (he : l[k]? = some e) : e.file.blocks.length ≤ 1099511627776 := by
  have h1 := usedN_succ he
  have h2 := usedN_le l (k + 1)
  have h3 := h.blocks
  omega

theorem GoodL.behind {l : List SFile} (h : GoodL l) {k : Nat} {e : SFile} (he : l[k]? = some e) : (Op.bytesLess e.name (lastN l k) || e.name == lastN l k) = false := by
  cases k with
  | zero =>
    have hn := h.names e (List.mem_of_getElem? he)
    have hne : e.name ≠ [] := by
      intro e1
      unfold nameB at hn
      simp at hn
      have := hn.1.1
      rw [show (⟨e.name.toArray⟩ : ByteArray).size = e.name.length from by show e.name.toArray.size = _; simp, e1] at this
      simp at this
    simp only [lastN]
    cases hx : e.name with
    | nil => exact absurd hx hne
    | cons a r => simp [Op.bytesLess]
  | succ j =>
    obtain ⟨hk, rfl⟩ := List.getElem?_eq_some_iff.1 he
    have hj : l[j]? = some (l[j]'(by omega)) := List.getElem?_eq_getElem (by omega)
    have hb := List.pairwise_iff_getElem.1 h.rising j (j + 1) (by omega) hk (by omega)
    have : lastN l (j + 1) = (l[j]'(by omega)).name := by simp [lastN, hj]
    rw [this]
    exact Go.Proofs.YtcpncfngadablaaDoor.behind hb

section
variable {w w' : World} {E : Nat → Addr} {lo p mf mt : Nat} {D : DiskC}

/-- file k of a state in a later world. -/
theorem StateAt.file {n B k G gc : Nat} {fv : Value} {l : List SFile} {e : SFile} {wr : World} (h : StateAt w n B fv l) (he : l[k]? = some e) (hb : Below w.heap.size w wr) (e1 : fv = .slice (some ⟨G, 0, none⟩) l.length gc) :
    wr.cell? ⟨G, k * 3, none⟩ = some (encStr e.name) ∧ wr.cell? ⟨G, k * 3 + 1, none⟩ = some (.bool e.file.shut) ∧ wr.cell? ⟨G, k * 3 + 2, none⟩ = some e.sv ∧ BlocksAt wr B e.sv e.bs e.file.blocks ∧ G < wr.heap.size := by
  have c := h.cellsAt he e1
  have b := h.each _ (List.mem_of_getElem? he)
  have up : ∀ i v, w.cell? ⟨G, i, none⟩ = some v → wr.cell? ⟨G, i, none⟩ = some v := fun i v h => (hb.cell (p := ⟨G, i, none⟩) (World.block_lt_of_cell? w _ h)).trans h
  exact ⟨up _ _ c.1, up _ _ c.2.1, up _ _ c.2.2, b.kept fun x hx => hb.block x (by rcases hx with h' | h'; exact b.lt.1 x h'; exact b.lt.2 x h'), World.block_lt_of_cell? wr _ (up _ _ c.1)⟩

set_option maxRecDepth 100000 in
set_option maxHeartbeats 400000 in
theorem checkMount_ok {n B : Nat} {Bs : Int} {fv : Value} {l : List SFile} (h : StateAt w n B fv l) (hg : GoodL l) (h1 : 64 ≤ B) (h2 : B ≤ 65536) (h3 : (B : Int) % 32 = 0) (h4 : 0 ≤ Bs) (h5 : Bs ≤ 1099511627776) (hu : (usedN l l.length : Int) ≤ Bs) :
    Calls Tryd.prog 31 #[.agg #[.int .i64 B, fv], .agg #[.int .i64 B, .int .i64 Bs, .slice none 0 0]] w fun e w' => e = .returned .nilIface ∧ Below w.heap.size w w' := by
  have HC := hid (fun W => checkSetup_ok (B := (B : Int)) (Bs := Bs) (v := .slice none 0 0) rfl (by omega) (by omega) h3 h4 h5 W)
  have hfs : ∃ fa fc, fv = .slice fa l.length fc := by
    rcases h.own.2 with ⟨e, h0⟩ | ⟨g, cap, _, e, _⟩
    · exact ⟨none, 0, by rw [e, h0]⟩
    · exact ⟨_, cap, e⟩
  obtain ⟨fa, fc, hfv⟩ := hfs
  have HS := hid h
  have HG := hid hg
  have HU := hid hu
  have HFV := hid hfv
  rw [hfv]
  obtain ⟨W, hW⟩ : ∃ W, W = (w.alloc (.cells #[.int .i64 B, .slice fa l.length fc] 43)).alloc (.cells #[.int .i64 B, .int .i64 Bs, .slice none 0 0] 29) := ⟨_, rfl⟩
  have hW1 := heap_two w (.cells #[.int .i64 B, .slice fa l.length fc] 43) (.cells #[.int .i64 B, .int .i64 Bs, .slice none 0 0] 29)
  rw [← hW] at hW1
  have hTW : Below w.heap.size w W := by rw [hW]; exact ((Below.refl _ w).alloc (Nat.le_refl _) _).alloc (by simp) _
  have HE := hid hW
  have HW := hid hW1
  have HTW := hid hTW
  clear h hg hu hfv h3 hW hW1 hTW
  go_enter Tryd.func31, Tryd.ntmps31
  go_wp2_with fail
  rw [← HE.out]
  refine (HC.out _).mono ?_
  rintro e w1 ⟨rfl, hb1⟩
  have r1 : w1.heap[w.heap.size]? = _ := (hb1.block _ (lt_of_block HW.out.1)).trans HW.out.1
  have r2 : w1.heap[w.heap.size + 1]? = _ := (hb1.block _ (lt_of_block HW.out.2)).trans HW.out.2
  have a0 := cell_row r1 0
  have a1 := cell_row r1 1
  have b0 := cell_row r2 0
  have b1 := cell_row r2 1
  simp at a0 a1 b0 b1
  have hbw : Below w.heap.size w w1 := HTW.out.trans (hb1.mono HTW.out.size)
  have HR1 := hid r1
  have HR2 := hid r2
  have HBW := hid hbw
  have lz : w.heap.size + 1 < w1.heap.size := lt_of_block r2
  have hnb : ((B : Int) != (B : Int)) = false := by simp
  clear r1 r2 hb1 hbw
  go_wp2
  go_loopw [6, 7, 25] (fun la us i wr => ∃ k : Nat, k ≤ l.length ∧ i = .int .i64 k ∧ la = encStr (lastN l k) ∧ us = .int .i64 (usedN l k) ∧ Below w1.heap.size w1 wr) (fun _ _ i _ => l.length - (intOf i).toNat)
  case atStart => exact ⟨0, Nat.zero_le _, rfl, rfl, rfl, Below.refl _ _⟩
  case round =>
    obtain ⟨k, hk, rfl, rfl, rfl, hbr⟩ := hrel
    have x0 := hbr.cell (p := ⟨w.heap.size + 1, 0, none⟩) lz
    have x1 := hbr.cell (p := ⟨w.heap.size + 1, 1, none⟩) lz
    rw [b0] at x0
    rw [b1] at x1
    have hzr : w.heap.size + 1 < wr.heap.size := Nat.lt_of_lt_of_le lz hbr.size
    have hub := usedN_le l k
    have hgb := HG.out.blocks
    have hfew := HG.out.few
    by_cases hlt : k < l.length
    · obtain ⟨e0, he0⟩ : ∃ e0, l[k]? = some e0 := ⟨l[k], List.getElem?_eq_getElem hlt⟩
      obtain ⟨G, gc, hG⟩ := HS.out.slice1 (by omega)
      rw [HFV.out] at hG
      simp only [Value.slice.injEq, true_and] at hG
      obtain ⟨rfl, rfl⟩ := hG
      have hbwr : Below w.heap.size w wr := HBW.out.trans (hbr.mono HBW.out.size)
      obtain ⟨f0, f1, f2, hbl, lG⟩ := HS.out.file he0 hbwr HFV.out
      have hone := HG.out.one he0
      have hus := usedN_succ he0
      have hle := usedN_le l (k + 1)
      have HK := hid (fun o : Obj => checkFile_ok (w := wr.alloc o) (s := ⟨e0.name.toArray⟩) (last := ⟨(lastN l k).toArray⟩) (x := e0.file.shut) (hbl.kept fun b hb => Below.heap_alloc wr o b (by rcases hb with h' | h'; exact hbl.lt.1 b h'; exact hbl.lt.2 b h')) hone (HG.out.names e0 (List.mem_of_getElem? he0)) (by have hx := HG.out.behind he0; simpa [ByteArray.toList_eq] using hx))
      obtain ⟨ga, gn, gk, hsv⟩ := hbl.own_slice
      have hgn : gn = e0.file.blocks.length := by
        rcases hbl.own.2 with ⟨h, h'⟩ | ⟨g, cap, _, h, _⟩
        · rw [hsv] at h; simp at h; omega
        · rw [hsv] at h; simp at h; exact h.2.1
      subst hgn
      rw [hsv] at f2 HK
      have HUS := hid hus
      have HE0 := hid he0
      have HBR := hid hbr
      clear he0 hbl hsv hus hbr hbwr
      go_wp2_with (go_at_call 52; refine (HK.out _).mono ?_; rintro e w2 ⟨rfl, ht2⟩; obtain ⟨q0, q1, q2, lq⟩ := box_up3 ht2; have HT2 := hid ht2; clear ht2)
      have hbn : Below w1.heap.size w1 w2 := HBR.out.trans (((Below.refl _ wr).alloc (Nat.le_refl _) _).trans (HT2.out.mono (by simp)) |>.mono HBR.out.size)
      have hla : encStr e0.name = encStr (lastN l (k + 1)) := by simp [lastN, HE0.out]
      have hue : (usedN l k : Int) + e0.file.blocks.length = (usedN l (k + 1) : Nat) := by rw [HUS.out]; simp
      have HBN := hid hbn
      have HLA := hid hla
      have HUE := hid hue
      clear hbn hla hue
      go_roundw
      case rel => first | exact ⟨k + 1, by omega, by go_num, HLA.out, by rw [HUE.out], HBN.out⟩ | ((repeat apply Exists.intro); exact ⟨⟨k + 1, by omega, by go_num, HLA.out, by rw [HUE.out], HBN.out⟩, rfl⟩)
      case measure => simp [intOf]; omega
    · have hkk : k = l.length := by omega
      have hu := HU.out
      subst hkk
      have HBR := hid hbr
      clear hbr
      go_wp2
      go_ret
      exact ⟨rfl, HBW.out.trans (HBR.out.mono HBW.out.size)⟩
end
end Go.Proofs.YtcpncfngadablaaDoor
