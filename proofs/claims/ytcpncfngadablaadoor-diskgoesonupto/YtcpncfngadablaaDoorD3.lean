import Derived.Test.YtcpncfngadablaaDoorC7
import Derived.Test.YtcpncfngadablaaDoorD1
namespace Go.Proofs.YtcpncfngadablaaDoor
open Go.RowKit Go.Deep

section
variable {w w' : World} {E : Nat → Addr} {lo p mf mt : Nat} {D : DiskC}

theorem fileOf_fin {B : Nat} {o : Obj} {w1 : World} {sv : Value} {bs : List Nat} {blocks : List (List UInt8)} (x : Bool) (hb : BlocksAt w1 B sv bs blocks) (hf : FreshB (w.alloc o).heap.size sv bs) (ht : Below (w.alloc o).heap.size (w.alloc o) w1) :
    FileAt (w1.alloc (.cells #[.int .i64 (if x then 1 else 0), sv] 97)) B ⟨w1.heap.size, sv, bs⟩ ⟨x, blocks⟩ ∧ (∀ b ∈ (⟨w1.heap.size, sv, bs⟩ : Lay).foot, w.heap.size ≤ b) ∧ (⟨w1.heap.size, sv, bs⟩ : Lay).foot.Nodup ∧ ∀ o' : Obj, Below w.heap.size w (w1.alloc o') := by
  have hs : (w.alloc o).heap.size = w.heap.size + 1 := by simp
  have hs1 := ht.size
  have hk := hb.kept (w' := w1.alloc (.cells #[.int .i64 (if x then 1 else 0), sv] 97)) fun b hb' => Below.heap_alloc w1 _ b (by rcases hb' with h' | h'; exact hb.lt.1 b h'; exact hb.lt.2 b h')
  refine ⟨⟨heap_alloc_new w1 _, hk.own, hk.bytes⟩, fun b hb' => ?_, ?_, fun o' => ?_⟩
  · simp only [Lay.foot, List.mem_cons, List.mem_append, Option.mem_toList] at hb'
    rcases hb' with rfl | h | h
    · omega
    · have := hf.1 b h; omega
    · have := hf.2.1 b h; omega
  · show (w1.heap.size :: (sv.ownBlock.toList ++ bs)).Nodup
    rw [List.nodup_cons]
    refine ⟨fun h => ?_, hf.2.2⟩
    rcases List.mem_append.1 h with h | h
    · have := hb.lt.1 _ (by simpa using h); omega
    · have := hb.lt.2 _ h; omega
  · exact (((Below.refl _ w).alloc (Nat.le_refl _) o).trans (ht.mono (by omega))).alloc (by omega) _

set_option maxRecDepth 100000 in
set_option maxHeartbeats 400000 in
theorem fileOf_any {B : Nat} {s : ByteArray} {x : Bool} {sv : Value} {bs : List Nat} {blocks : List (List UInt8)} (h : BlocksAt w B sv bs blocks) (hB1 : 64 ≤ B) (hB2 : B ≤ 65536) (hn : blocks.length ≤ 1099511627776) :
    Calls Tryd.prog 32 #[.agg #[.string s, .bool x, sv]] w fun e w' => ∃ L : Lay, e = .returned (ptr L.fb) ∧ FileAt w' B L ⟨x, blocks⟩ ∧ (∀ b ∈ L.foot, w.heap.size ≤ b) ∧ L.foot.Nodup ∧ Below w.heap.size w w' := by
  have HC := hid (fun o : Obj => copyBlocks_any (w := w.alloc o) (h.kept fun b hb => Below.heap_alloc w o b (by rcases hb with h' | h'; exact h.lt.1 b h'; exact h.lt.2 b h')) hB1 hB2 hn)
  obtain ⟨ga, gn, gc, hsv⟩ := h.own_slice
  rw [hsv] at HC
  rw [hsv]
  clear h hsv
  cases x
  all_goals
    go_enter Tryd.func32, Tryd.ntmps32
    go_wp2_with (go_at_call 51; refine (HC.out _).mono ?_; rintro e w1 ⟨sv', bs', rfl, hb1, hf1, ht1⟩; have HB1 := hid hb1; have HF1 := hid hf1; have HT1 := hid ht1; obtain ⟨ka, kn, kc, hk⟩ := hb1.own_slice; clear hb1 hf1 ht1)
    go_ret
    first
      | (obtain ⟨h1, h2, h3, h4⟩ := fileOf_fin false HB1.out HF1.out HT1.out
         rw [hk] at h1 h2 h3
         exact ⟨_, rfl, h1, h2, h3, h4 _⟩)
      | (obtain ⟨h1, h2, h3, h4⟩ := fileOf_fin true HB1.out HF1.out HT1.out
         rw [hk] at h1 h2 h3
         exact ⟨_, rfl, h1, h2, h3, h4 _⟩)

theorem less_before : ∀ a b : List UInt8, Op.bytesLess a b = bytesBefore a b
  | [], [] => rfl
  | _ :: _, [] => rfl
  | [], _ :: _ => rfl
  | a :: x, b :: y => by simp only [Op.bytesLess, bytesBefore, less_before x y]

/-- a name behind another is not '<=' it. -/
theorem behind {a b : List UInt8} (h : bytesBefore a b = true) : (Op.bytesLess b a || b == a) = false := by
  rw [less_before]
  have hne : b ≠ a := fun e => by subst e; rw [WideAt.bytes_irrefl] at h; cases h
  have h1 : bytesBefore b a = false := by
    cases hx : bytesBefore b a with
    | false => rfl
    | true =>
      have := WideShapes.bytes_trans _ _ _ h hx
      rw [WideAt.bytes_irrefl] at this
      cases this
  simp [h1, hne]

set_option maxRecDepth 100000 in
set_option maxHeartbeats 400000 in
theorem checkFile_ok {B : Nat} {s last : ByteArray} {x : Bool} {sv : Value} {bs : List Nat} {blocks : List (List UInt8)} (h : BlocksAt w B sv bs blocks) (hn : blocks.length ≤ 1099511627776) (hs : nameB s = true) (hl : (Op.bytesLess s.toList last.toList || s.toList == last.toList) = false) :
    Calls Tryd.prog 52 #[.agg #[.string s, .bool x, sv], .string last, .int .i64 B] w fun e w' => e = .returned .nilIface ∧ Below w.heap.size w w' := by
  by_cases h0 : blocks.length = 0
  · obtain ⟨a1, c1, e1⟩ := h.slice0 h0
    rw [e1]
    clear h e1 h0
    go_enter Tryd.func52, Tryd.ntmps52
    go_wp2_with (go_at_call 69; refine (isName_any _ _).mono ?_; rintro e w' ⟨rfl, rfl⟩)
    refine wp_loop_rounds 1 ?_
    rw [rounds_succ]
    go_wp2
    go_ret
    exact ⟨rfl, (Below.refl _ w).alloc (Nat.le_refl _) _⟩
  · obtain ⟨G1, gc1, e1⟩ := h.slice1 h0
    have H1 := hid h
    have E1 := hid e1
    rw [e1]
    clear h e1
    go_enter Tryd.func52, Tryd.ntmps52
    go_wp2_with (go_at_call 69; refine (isName_any _ _).mono ?_; rintro e w' ⟨rfl, rfl⟩)
    go_loop [23] (fun i => ∃ k : Nat, k ≤ blocks.length ∧ i = .int .i64 k) (fun i => blocks.length - (intOf i).toNat)
    case atStart => exact ⟨0, Nat.zero_le _, rfl⟩
    case round =>
      obtain ⟨k, hk, rfl⟩ := hrel
      by_cases hlt : k < blocks.length
      · obtain ⟨g, cap, b, e1, cG, hlen, hby, _⟩ := H1.out.at hlt
        rw [E1.out] at e1
        simp only [Value.slice.injEq, Option.some.injEq, Addr.mk.injEq] at e1
        obtain ⟨⟨rfl, _⟩, hgc⟩ := e1
        have lG := World.block_lt_of_cell? w _ cG
        have lG' : G1 < w.heap.size := lG
        clear hgc hby hlen lG
        go_wp2
        go_round
        case rel => exact ⟨k + 1, by omega, by go_num⟩
        case measure => simp [intOf]; omega
      · go_wp2
        go_ret
        exact ⟨rfl, (Below.refl _ w).alloc (Nat.le_refl _) _⟩
end
end Go.Proofs.YtcpncfngadablaaDoor
