import Derived.Test.YtcpncfngadablaaDoorB8
import Derived.Deep.LoopGhost
namespace Go.Proofs.YtcpncfngadablaaDoor
open Go.RowKit Go.Deep

section
variable {w w' : World} {E : Nat → Addr} {lo p mf mt : Nat} {D : DiskC}

/-- bytes that a slice shows. -/
structure Shows (w : World) (sa : Option Addr) (n c : Nat) (d : List UInt8) : Prop where
  len : d.length = n
  cap : n ≤ c
  at_ : 0 < n → ∃ a, sa = some a ∧ a.block < w.heap.size ∧ ∀ j v, (Lib.byteCells d)[j]? = some v → w.cell? (a.add j) = some v
  nil : sa = none → n = 0 ∧ c = 0

/-- what Op.data makes of the bytes. -/
def dataA (N : Int) (B : Nat) (d : List UInt8) : List UInt8 := if N = 0 then d else d.take B ++ List.replicate (B - d.length) 0

theorem append_nil_nil (ty : TypeId) (w : World) (a : Option Addr) (c : Nat) : (Builtin.append_ #[31, 31] ty #[.slice none 0 0, .slice a 0 c]).run Tryd.prog w = .ok (.slice none 0 0) w := by
  obtain ⟨i, hi, hz0, hz1, hz2⟩ := info_parts Tryd.info5
  cases a <;> simp [Builtin.append_, run_underlying Tryd.underlying31, sizeOf, typeInfo, hi, Builtin.lenOf, Builtin.firstCells, loadCells, loadCellsFrom]

/-- 'append([]byte(nil), s...)'. -/
theorem run_append_bytes (ty : TypeId) (w : World) {sa : Option Addr} {n c : Nat} {d : List UInt8} (h : Shows w sa n c d) (hn : n ≤ 1099511627776) :
    ∃ v w', (Builtin.append_ #[31, 31] ty #[.slice none 0 0, .slice sa n c]).run Tryd.prog w = .ok v w' ∧ w'.ownsRow w.heap.size 5 1 v n (Lib.byteCells d) ∧ Below w.heap.size w w' := by
  by_cases h0 : n = 0
  · subst h0
    have hd : d = [] := List.eq_nil_of_length_eq_zero h.len
    subst hd
    exact ⟨_, _, append_nil_nil ty w sa c, World.ownsRow_nil _ _ _ _, Below.refl _ _⟩
  · obtain ⟨a, rfl, ha, hc⟩ := h.at_ (by omega)
    obtain ⟨i, hi, hz0, hz1, hz2⟩ := info_parts Tryd.info5
    obtain ⟨v', w', hr, ho, hg, _⟩ := run_append_own (P := Tryd.prog) w w.heap.size 31 ty 5 i (.int .u8 0) 1 1 Tryd.underlying31 hi hz0 hz1 hz2 rfl (by decide) (.slice none 0 0) 0 [] (World.ownsRow_nil _ _ _ _) a n c (Lib.byteCells d) (by rw [Lib.byteCells_length, h.len]; omega) hc (byteCells_one' d) (by unfold maxLen; omega) (by omega) (Nat.le_refl _)
    refine ⟨v', w', hr, ?_, (Below.refl _ w).grown hg (Nat.le_refl _) (by simp [Value.ownBlock])⟩
    simpa using ho

/-- an owned row of bytes is shown by its slice. -/
theorem shows_own {base n : Nat} {v : Value} {d : List UInt8} (h : w.ownsRow base 5 1 v n (Lib.byteCells d)) : ∃ sa c, v = .slice sa n c ∧ Shows w sa n c d ∧ ∀ a, sa = some a → base ≤ a.block := by
  have hl : d.length = n := by simpa [Lib.byteCells_length] using h.1
  rcases h.2 with ⟨rfl, rfl⟩ | ⟨g, cap, cur, rfl, hb, hg, hn, _⟩
  · exact ⟨none, 0, rfl, ⟨hl, Nat.le_refl _, fun h => by omega, fun _ => ⟨rfl, rfl⟩⟩, by simp⟩
  · refine ⟨some ⟨g, 0, none⟩, cap, rfl, ⟨hl, hn, fun _ => ⟨_, rfl, lt_of_block hg, fun j v hv => h.cells (g := g) rfl j v hv⟩, by simp⟩, ?_⟩
    intro a ha
    simp at ha
    subst ha
    exact hb

/-- 'append(b, 0)', in a walk. -/
theorem wpList_append_zero (w : World) {ops : Array Oper} {rest : List Oper} {o : Oper} {a : Act} {Q : Exit → Act → World → Prop} (hgd : o.guard = none) (s x : Operand)
    (hop : o.op = Op.call { callee := Callee.builtin Builtin.append, args := #[s, x], argTypes := #[31, 31] })
    (base : Nat) (v : Value) (n : Nat) (d : List UInt8) (ad : Addr) (hs : a.eval s = v) (hx : a.eval x = .slice (some ad) 1 1) (hown : w.ownsRow base 5 1 v n (Lib.byteCells d)) (hu : w.cell? ad = some (.int .u8 0)) (hn : n ≤ 1099511627776) (hb : base ≤ w.heap.size)
    (hK : ∀ v' w', w'.ownsRow base 5 1 v' (n + 1) (Lib.byteCells (d ++ [0])) → Below base w w' → wpList Tryd.prog ops Q rest (a.put o.dst v') w') : wpList Tryd.prog ops Q (o :: rest) a w := by
  refine wpList_plain hgd fun K' hK' => ?_
  obtain ⟨i, hi, hz0, hz1, hz2⟩ := info_parts Tryd.info5
  have hnews : ∀ j u, [Value.int .u8 0][j]? = some u → w.cell? (ad.add j) = some u := by
    intro j u hu'
    cases j with
    | zero => simp at hu'; subst hu'; simpa [Addr.add] using hu
    | succ j => simp at hu'
  obtain ⟨v', w', hrun, ho, hg, _⟩ := run_append_own (P := Tryd.prog) w base 31 o.type 5 i (.int .u8 0) 1 1 Tryd.underlying31 hi hz0 hz1 hz2 rfl (by decide) v n _ hown ad 1 1 [.int .u8 0] rfl hnews (by simp [Value.oneCell']) (by unfold maxLen; omega) (by omega) hb
  have ho' : w'.ownsRow base 5 1 v' (n + 1) (Lib.byteCells (d ++ [0])) := by
    rw [Lib.byteCells_append]
    exact ho
  have hbw : Below base w w' := (Below.refl _ w).grown hg hb (fun k hk => (hown.lt k hk).1)
  unfold Oper.wp
  simp [execOp, hop, resolve, invoke, builtin, hs, hx, hrun, Result.andThen]
  exact hK' _ _ (hK v' w' ho' hbw)
end
end Go.Proofs.YtcpncfngadablaaDoor
