/-
  sync.Once: Do, of a table that is not yet filled, and of one that is.
-/
import Derived.Test.YtfodpeiecmbojaaB1
import Derived.RegionTactic
import Derived.RegionCalls
import Derived.ChangeAlike
import Derived.Laws.Pointers
namespace Go.Proofs.Ytfodpeiecmbojaa
open Go.RowKit Go.Deep PureCrc

theorem disable (w : World) : (callFunc 55 #[]).run Try.prog w = .ok (.value (.tuple #[])) w := run_call_mark0 Try.func55 (by kernel_rfl) (by kernel_rfl) (by kernel_rfl) .disable (by kernel_rfl) w
theorem enable (w : World) : (callFunc 57 #[]).run Try.prog w = .ok (.value (.tuple #[])) w := run_call_mark0 Try.func57 (by kernel_rfl) (by kernel_rfl) (by kernel_rfl) .enable (by kernel_rfl) w
theorem acquire (a : Addr) (w : World) : (callFunc 58 #[.pointer (some a)]).run Try.prog w = .ok (.value (.tuple #[])) w := run_call_marked Try.func58 (by kernel_rfl) (by kernel_rfl) (by kernel_rfl) .acquire (by kernel_rfl) a w
theorem releaseMerge (a : Addr) (w : World) : (callFunc 60 #[.pointer (some a)]).run Try.prog w = .ok (.value (.tuple #[])) w := run_call_marked Try.func60 (by kernel_rfl) (by kernel_rfl) (by kernel_rfl) .releaseMerge (by kernel_rfl) a w

theorem store_deferred (a : Addr) (x : Value) (u : FrameMode) (w : World) (hc : w.cell? a = some x) (hz : w.frozen? a = false) :
    CallsD Try.prog 50 #[.pointer (some a), .bool true] u w fun e u' w' => u' = u ∧ (e = .returned (.tuple #[]) ∧ w' = w.drew.setCell a (.int .u32 1)) := by
  have hc' : w.drew.cell? a = some x := by go_simp
  have hz' : w.drew.frozen? a = false := by go_simp
  have hst := run_call_store (P := Try.prog) Try.func53 (by kernel_rfl) (by kernel_rfl) (by kernel_rfl) (by kernel_rfl) (k := .u32) (y := 1) hc' hz'
  go_enter_d Try.func50, Try.ntmps50
  go_wp2
  go_region_calls
  all_goals (go_end0; exact ⟨rfl, rfl⟩)

theorem unlock_deferred (a : Addr) (u : FrameMode) (w : World) (hc : w.cell? a = some (.int .i32 1)) (hz : w.frozen? a = false) :
    CallsD Try.prog 49 #[.pointer (some a)] u w fun e u' w' => u' = u ∧ (e = .returned (.tuple #[]) ∧ w' = w.setCell a (.int .i32 0)) := by
  have hd := disable
  have he := enable
  have hr := releaseMerge
  have hadd := run_call_add (P := Try.prog) Try.func61 (by kernel_rfl) (by kernel_rfl) (by kernel_rfl) .i32 (by kernel_rfl) (y := -1) (s := 0) hc hz (by simp [go_sem]; rfl)
  have hcv := run_convert_to_unsafe (P := Try.prog) (src := 83) (dst := 87) Try.underlying83 Try.underlying87 (by kernel_rfl) hc
  go_enter_d Try.func49, Try.ntmps49
  go_wp2
  go_end0
  go_wp2
  go_end0
  exact ⟨rfl, rfl⟩

theorem lock_free (a : Addr) (w : World) (hc : w.cell? a = some (.int .i32 0)) (hz : w.frozen? a = false) :
    Calls Try.prog 48 #[.pointer (some a)] w fun e w' => e = .returned (.tuple #[]) ∧ w' = w.setCell a (.int .i32 1) := by
  have hd := disable
  have he := enable
  have ha := acquire
  have hcas := run_call_cas_hit (P := Try.prog) Try.func56 (by kernel_rfl) (by kernel_rfl) (by kernel_rfl) .i32 (by kernel_rfl) (y := 1) hc hz
  have hc' : (w.setCell a (.int .i32 1)).cell? a = some (.int .i32 1) := World.cell?_setCell_same w a _ hc
  have hcv := run_convert_to_unsafe (P := Try.prog) (src := 83) (dst := 87) Try.underlying83 Try.underlying87 (by kernel_rfl) hc'
  go_enter Try.func48, Try.ntmps48
  go_wp2
  first | go_end0 | (simp only [Exit.inBlock, Exit.then]; refine bodyPost_ret (results_none rfl _ _ _) rfl ?_) | refine bodyPost_ret (results_none rfl _ _ _) rfl ?_
  go_wp2
  go_end0
  exact ⟨rfl, rfl⟩

/-- what a Once holds, nobody at its lock. -/
abbrev Once (w : World) (ob : Nat) (d l : Int) : Prop := w.heap[ob]? = some (.cells #[.int .u32 d, .int .i32 l, .int .u32 0] 69 (0, 0))
abbrev fillV (tb : Nat) : Value := .func (.func 42) #[] #[.pointer (some ⟨tb, 0, none⟩)]

theorem Once.set0 {w : World} {ob : Nat} {d l : Int} (h : Once w ob d l) (x : Int) : Once (w.setCell ⟨ob, 0, none⟩ (.int .u32 x)) ob x l := heap_setCell_row h 0 _
theorem Once.set1 {w : World} {ob : Nat} {d l : Int} (h : Once w ob d l) (x : Int) : Once (w.setCell ⟨ob, 1, none⟩ (.int .i32 x)) ob d x := heap_setCell_row h 1 _
theorem Tab.kept {w w' : World} {b : Nat} {f : Nat → Nat} {C : Array Value} (h : Tab w b f C) (hk : w'.heap[b]? = w.heap[b]?) : Tab w' b f C := ⟨hk.trans h.row, h.size, h.at_⟩

theorem load_any (a : Addr) (x : Int) (w : World) (hc : w.cell? a = some (.int .u32 x)) :
    Calls Try.prog 45 #[.pointer (some a)] w fun e w' => e = .returned (.bool (x != 0)) ∧ w' = w := by
  have hl := run_call_load (P := Try.prog) Try.func47 (by kernel_rfl) (by kernel_rfl) (by kernel_rfl) .u32 (by kernel_rfl) hc
  go_enter Try.func45, Try.ntmps45
  go_wp2
  go_ret
  exact ⟨rfl, rfl⟩

set_option maxRecDepth 100000 in
set_option maxHeartbeats 1600000 in
theorem slow_first (ob tb : Nat) (w : World) (C : Array Value) (ho : Once w ob 0 0) (ht : Tab w tb (fun _ => 0) C) (hne : ob ≠ tb) :
    Calls Try.prog 46 #[.pointer (some ⟨ob, 0, none⟩), fillV tb] w fun e w' => e = .returned (.tuple #[]) ∧ Once w' ob 1 0 ∧ (∃ C, Tab w' tb (fun j => iter 8 j) C) ∧ Touch [ob, tb] w w' ∧ w'.heap.size = w.heap.size := by
  have l1 := lock_free ⟨ob, 1, none⟩ w (cell_row ho 1) (unfrozen_row ho 1)
  obtain ⟨w1, hw1⟩ : ∃ w1, w1 = w.setCell ⟨ob, 1, none⟩ (.int .i32 1) := ⟨_, rfl⟩
  have ho1 : Once w1 ob 0 1 := by rw [hw1]; exact ho.set1 1
  have ht1 : Tab w1 tb (fun _ => 0) C := by rw [hw1]; exact ht.kept (Below.heap_setCell w _ _ tb (fun e => hne e.symm))
  have hT1 : Touch [ob, tb] w w1 := by rw [hw1]; exact (Touch.refl _ w).setCell (.inl (by simp)) _
  have hs1 : w1.heap.size = w.heap.size := by rw [hw1]; simp [World.setCell]
  have HL := hid (load_any ⟨ob, 0, none⟩ 0 w1 (cell_row ho1 0))
  have hnot : ∀ (x : Bool) (w : World), (Op.unary .not (.bool x)).run Try.prog w = .ok (.bool (!x)) w := fun _ _ => rfl
  have HF := hid (fill_any tb w1 C ht1)
  have HO1 := hid ho1
  have HT1 := hid hT1
  have HS1 := hid hs1
  rw [← hw1] at l1
  have L1 := hid l1
  clear hw1 ho1 ht1 hT1 hs1 l1 ho ht
  go_enter_defers Try.func46, Try.ntmps46
  go_wp2_with (first
    | (go_at_call 43; refine HF.out.mono ?_; rintro e w2 ⟨rfl, hC, hT2, hs2⟩; have HC := hid hC; have HT2 := hid hT2; have HS2 := hid hs2; clear hC hT2 hs2)
    | (go_at_call 42; go_in)
    | (go_at_call 45; refine HL.out.mono ?_; rintro e w3 ⟨rfl, rfl⟩)
    | (go_at_call 48; refine L1.out.mono ?_; rintro e w' ⟨rfl, rfl⟩))
  go_end0
  go_wp2
  have hO2 : Once w2 ob 0 1 := (HT2.out.block ob (lt_of_block HO1.out) (by simp [hne])).trans HO1.out
  have hO3 : Once (w2.drew.setCell ⟨ob, 0, none⟩ (.int .u32 1)) ob 1 1 := Once.set0 (w := w2.drew) hO2 1
  refine leaves_cons (f := 50) (args := #[.pointer (some ⟨ob, 0, none⟩), .bool true]) (by simp) (by simp [go_sem]) ?_
  refine (store_deferred ⟨ob, 0, none⟩ (.int .u32 0) .returning _ (cell_row hO2 0) (unfrozen_row hO2 0)).mono ?_
  rintro e u' w'' ⟨rfl, rfl, rfl⟩
  refine leaves_cons (f := 49) (args := #[.pointer (some ⟨ob, 1, none⟩)]) (by simp [settle]) (by simp [go_sem]) ?_
  refine (unlock_deferred ⟨ob, 1, none⟩ _ _ (cell_row hO3 1) (unfrozen_row hO3 1)).mono ?_
  rintro e u' w'' ⟨rfl, rfl, rfl⟩
  obtain ⟨C', hC'⟩ := HC.out
  have h5 : Once ((w2.drew.setCell ⟨ob, 0, none⟩ (.int .u32 1)).setCell ⟨ob, 1, none⟩ (.int .i32 0)) ob 1 0 := hO3.set1 0
  have hTab : Tab ((w2.drew.setCell ⟨ob, 0, none⟩ (.int .u32 1)).setCell ⟨ob, 1, none⟩ (.int .i32 0)) tb (fun j => iter 8 j) C' :=
    hC'.kept ((Below.heap_setCell _ _ _ tb (fun e => hne e.symm)).trans (Below.heap_setCell _ _ _ tb (fun e => hne e.symm)))
  have hT : Touch [ob, tb] w ((w2.drew.setCell ⟨ob, 0, none⟩ (.int .u32 1)).setCell ⟨ob, 1, none⟩ (.int .i32 0)) :=
    (((HT1.out.trans HT2.out (by intro b hb; exact .inl (by simp at hb; simp [hb]))).drew.setCell (.inl (by simp)) _).setCell (.inl (by simp)) _)
  have hS : ((w2.drew.setCell ⟨ob, 0, none⟩ (.int .u32 1)).setCell ⟨ob, 1, none⟩ (.int .i32 0)).heap.size = w.heap.size := by
    rw [← HS1.out, ← HS2.out]; simp [World.setCell]
  simp only [Leaves, settle]
  exact ⟨_, results_none rfl _ _ _, rfl, h5, ⟨C', hTab⟩, hT, hS⟩

set_option maxRecDepth 100000 in
set_option maxHeartbeats 400000 in
theorem do_done (ob : Nat) (f : Value) (w : World) (ho : Once w ob 1 0) :
    Calls Try.prog 41 #[.pointer (some ⟨ob, 0, none⟩), f] w fun e w' => e = .returned (.tuple #[]) ∧ w' = w := by
  have hl := run_call_load (P := Try.prog) Try.func47 (by kernel_rfl) (by kernel_rfl) (by kernel_rfl) .u32 (by kernel_rfl) (w := w) (a := ⟨ob, 0, none⟩) (x := 1) (cell_row ho 0)
  have hnot : ∀ (x : Bool) (w : World), (Op.unary .not (.bool x)).run Try.prog w = .ok (.bool (!x)) w := fun _ _ => rfl
  clear ho
  go_enter Try.func41, Try.ntmps41
  go_wp2
  go_end0
  exact ⟨rfl, rfl⟩

set_option maxRecDepth 100000 in
set_option maxHeartbeats 400000 in
theorem do_first (ob tb : Nat) (w : World) (C : Array Value) (ho : Once w ob 0 0) (ht : Tab w tb (fun _ => 0) C) (hne : ob ≠ tb) :
    Calls Try.prog 41 #[.pointer (some ⟨ob, 0, none⟩), fillV tb] w fun e w' => e = .returned (.tuple #[]) ∧ Once w' ob 1 0 ∧ (∃ C, Tab w' tb (fun j => iter 8 j) C) ∧ Touch [ob, tb] w w' ∧ w'.heap.size = w.heap.size := by
  have hl := run_call_load (P := Try.prog) Try.func47 (by kernel_rfl) (by kernel_rfl) (by kernel_rfl) .u32 (by kernel_rfl) (w := w) (a := ⟨ob, 0, none⟩) (x := 0) (cell_row ho 0)
  have hnot : ∀ (x : Bool) (w : World), (Op.unary .not (.bool x)).run Try.prog w = .ok (.bool (!x)) w := fun _ _ => rfl
  have HL := hid (load_any ⟨ob, 0, none⟩ 0 w (cell_row ho 0))
  have HSL := hid (slow_first ob tb w C ho ht hne)
  clear ho ht hl
  go_enter Try.func41, Try.ntmps41
  go_wp2_with (first
    | (go_at_call 46; refine HSL.out.mono ?_; rintro e w2 ⟨rfl, hh⟩; have HH := hid hh; clear hh)
    | (go_at_call 45; refine HL.out.mono ?_; rintro e w3 ⟨rfl, rfl⟩))
  go_end0
  exact ⟨rfl, HH.out⟩
end Go.Proofs.Ytfodpeiecmbojaa
