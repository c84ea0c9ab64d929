import Derived.Deep.LoopGhost
import Derived.Shelf.SlIter.Nil
import Derived.Shelf.SortM.Plain
import Derived.Shelf.SortM.SortNone
import Derived.Ground.GgzProg
import Derived.Ground.SlgmProg
import Derived.Deep.RegionLaw
import Derived.Lib.AppendZerosOnto
import Derived.Test.YtcpncfngadablaaGreatDoorZ02
namespace Go.Proofs.YtcpncfngadablaaGreatDoor
open Go.RowKit Go.Deep

section
variable {w w' : World} {E : Nat → Addr} {lo p mf mt : Nat} {D : DiskC}

/-- bytes that a slice shows. -/
structure Shows (w : World) (sa : Option Addr) (n c : Nat) (d : List UInt8) : Prop where
  len : d.length = n
  cap : n ≤ c
  at_ : 0 < n → ∃ a, sa = some a ∧ a.block < w.heap.size ∧ ∀ j v, (Lib.byteCells d)[j]? = some v → w.cell? (a.add j) = some v
  nil : sa = none → n = 0 ∧ c = 0

/-- what Op.data makes of the bytes. -/
def dataA (N : Int) (B : Nat) (d : List UInt8) : List UInt8 := if N = 0 then d else d.take B ++ List.replicate (B - d.length) 0

theorem append_nil_nil (ty : TypeId) (w : World) (a : Option Addr) (c : Nat) : (Builtin.append_ #[31, 31] ty #[.slice none 0 0, .slice a 0 c]).run Tryz.prog w = .ok (.slice none 0 0) w := by
  obtain ⟨i, hi, hz0, hz1, hz2⟩ := info_parts Tryz.info5
  cases a <;> simp [Builtin.append_, run_underlying Tryz.underlying31, sizeOf, typeInfo, hi, Builtin.lenOf, Builtin.firstCells, loadCells, loadCellsFrom]

/-- 'append([]byte(nil), s...)'. -/
theorem run_append_bytes (ty : TypeId) (w : World) {sa : Option Addr} {n c : Nat} {d : List UInt8} (h : Shows w sa n c d) (hn : n ≤ 1099511627776) :
    ∃ v w', (Builtin.append_ #[31, 31] ty #[.slice none 0 0, .slice sa n c]).run Tryz.prog w = .ok v w' ∧ w'.ownsRow w.heap.size 5 1 v n (Lib.byteCells d) ∧ Below w.heap.size w w' := by
  by_cases h0 : n = 0
  · subst h0
    have hd : d = [] := List.eq_nil_of_length_eq_zero h.len
    subst hd
    exact ⟨_, _, append_nil_nil ty w sa c, World.ownsRow_nil _ _ _ _, Below.refl _ _⟩
  · obtain ⟨a, rfl, ha, hc⟩ := h.at_ (by omega)
    obtain ⟨i, hi, hz0, hz1, hz2⟩ := info_parts Tryz.info5
    obtain ⟨v', w', hr, ho, hg, _⟩ := run_append_own (P := Tryz.prog) w w.heap.size 31 ty 5 i (.int .u8 0) 1 1 Tryz.underlying31 hi hz0 hz1 hz2 rfl (by decide) (.slice none 0 0) 0 [] (World.ownsRow_nil _ _ _ _) a n c (Lib.byteCells d) (by rw [Lib.byteCells_length, h.len]; omega) hc (byteCells_one' d) (by unfold maxLen; omega) (by omega) (Nat.le_refl _)
    refine ⟨v', w', hr, ?_, (Below.refl _ w).grown hg (Nat.le_refl _) (by simp [Value.ownBlock])⟩
    simpa using ho

/-- an owned row of bytes is shown by its slice. -/
theorem shows_own {base n : Nat} {v : Value} {d : List UInt8} (h : w.ownsRow base 5 1 v n (Lib.byteCells d)) : ∃ sa c, v = .slice sa n c ∧ Shows w sa n c d ∧ ∀ a, sa = some a → base ≤ a.block := by
  have hl : d.length = n := by simpa [Lib.byteCells_length] using h.1
  rcases h.2 with ⟨rfl, rfl⟩ | ⟨g, cap, cur, rfl, hb, hg, hn, _⟩
  · exact ⟨none, 0, rfl, ⟨hl, Nat.le_refl _, fun h => by omega, fun _ => ⟨rfl, rfl⟩⟩, by simp⟩
  · refine ⟨some ⟨g, 0, none⟩, cap, rfl, ⟨hl, hn, fun _ => ⟨_, rfl, lt_of_block hg, fun j v hv => h.cells (g := g) rfl j v hv⟩, by simp⟩, ?_⟩
    intro a ha
    simp at ha
    subst ha
    exact hb

/-- 'append(b, 0)', in a walk. -/
theorem wpList_append_zero (w : World) {ops : Array Oper} {rest : List Oper} {o : Oper} {a : Act} {Q : Exit → Act → World → Prop} (hgd : o.guard = none) (s x : Operand)
    (hop : o.op = Op.call { callee := Callee.builtin Builtin.append, args := #[s, x], argTypes := #[31, 31] })
    (base : Nat) (v : Value) (n : Nat) (d : List UInt8) (ad : Addr) (hs : a.eval s = v) (hx : a.eval x = .slice (some ad) 1 1) (hown : w.ownsRow base 5 1 v n (Lib.byteCells d)) (hu : w.cell? ad = some (.int .u8 0)) (hn : n ≤ 1099511627776) (hb : base ≤ w.heap.size)
    (hK : ∀ v' w', w'.ownsRow base 5 1 v' (n + 1) (Lib.byteCells (d ++ [0])) → Below base w w' → wpList Tryz.prog ops Q rest (a.put o.dst v') w') : wpList Tryz.prog ops Q (o :: rest) a w := by
  refine wpList_plain hgd fun K' hK' => ?_
  obtain ⟨i, hi, hz0, hz1, hz2⟩ := info_parts Tryz.info5
  have hnews : ∀ j u, [Value.int .u8 0][j]? = some u → w.cell? (ad.add j) = some u := by
    intro j u hu'
    cases j with
    | zero => simp at hu'; subst hu'; simpa [Addr.add] using hu
    | succ j => simp at hu'
  obtain ⟨v', w', hrun, ho, hg, _⟩ := run_append_own (P := Tryz.prog) w base 31 o.type 5 i (.int .u8 0) 1 1 Tryz.underlying31 hi hz0 hz1 hz2 rfl (by decide) v n _ hown ad 1 1 [.int .u8 0] rfl hnews (by simp [Value.oneCell']) (by unfold maxLen; omega) (by omega) hb
  have ho' : w'.ownsRow base 5 1 v' (n + 1) (Lib.byteCells (d ++ [0])) := by
    rw [Lib.byteCells_append]
    exact ho
  have hbw : Below base w w' := (Below.refl _ w).grown hg hb (fun k hk => (hown.lt k hk).1)
  unfold Oper.wp
  simp [execOp, hop, resolve, invoke, builtin, hs, hx, hrun, Result.andThen]
  exact hK' _ _ (hK v' w' ho' hbw)
end
end Go.Proofs.YtcpncfngadablaaGreatDoor
/-
  DERIVED. MADE BY PROGRAM (lay-iter.mjs) off ytcpncfngadablaadoor.cut.gsa: THE SHELF's CONTRACTS ON 'slices.Sorted(maps.Keys(m))' LAID AT THIS DUMP: 1 map type. NO WALK OF THE LIBRARY's TEXT: each is one application of a contract over any P and ρ (Derived/Shelf/SlIter/, Derived/Shelf/SortM/).
-/
namespace Go.Proofs
open Go.RowKit Go.Maps Go.Sort Go.Shelf

-- maps.Keys[map[string]*strata/disk.file,string,*strata/disk.file] (function 50; its iterator 68) · slices.Sorted[string] (49) · slices.Sort[[]string,string] (67) · the map's type 69, the keys' 9
def Tryz.keys74_ren : Go.Shelf.Ren := ⟨fun | 7 => 74 | 10 => 95 | n => n, fun | 23 => 88 | 26 => 9 | 3 => 92 | 28 => 125 | 0 => 0 | 27 => 124 | 33 => 108 | 4 => 4 | n => n, fun | n => n⟩
theorem Tryz.keys74 : Go.Proofs.SlLaysZ.n7 Tryz.prog Tryz.keys74_ren := {
  mixed := by kernel_rfl
  f7 := ⟨Tryz.f74.name, by decide, Tryz.func74.trans (congrArg some (by kernel_rfl))⟩
  f10 := ⟨Tryz.f95.name, by decide, Tryz.func95.trans (congrArg some (by kernel_rfl))⟩
  t0 := Tryz.underlying0
  a0 := Tryz.isAgg0
  z0 := Tryz.sizeOf0
  v0 := Tryz.zeroValue0
  t4 := Tryz.underlying4
  a4 := Tryz.isAgg4
  z4 := Tryz.sizeOf4
  v4 := Tryz.zeroValue4
  t23 := Tryz.underlying88
  a23 := Tryz.isAgg88
  z23 := Tryz.sizeOf88
  v23 := Tryz.zeroValue88
  t26 := Tryz.underlying9
  a26 := Tryz.isAgg9
  z26 := Tryz.sizeOf9
  v26 := Tryz.zeroValue9
  t27 := Tryz.underlying124
  a27 := Tryz.isAgg124
  z27 := Tryz.sizeOf124
  v27 := Tryz.zeroValue124
  t28 := Tryz.underlying125
  a28 := Tryz.isAgg125
  z28 := Tryz.sizeOf125
  v28 := Tryz.zeroValue125
  t33 := Tryz.underlying108
  a33 := Tryz.isAgg108
  z33 := Tryz.sizeOf108
  v33 := Tryz.zeroValue108 }
def Tryz.sorted73_ren : Go.Shelf.Ren := ⟨fun | 6 => 73 | 8 => 93 | 9 => 94 | 11 => 103 | 13 => 105 | 12 => 104 | 23 => 116 | 24 => 117 | 14 => 107 | 15 => 108 | 16 => 109 | 17 => 110 | 18 => 111 | 19 => 112 | 20 => 113 | 21 => 114 | 22 => 115 | 25 => 118 | 26 => 119 | 27 => 120 | 28 => 121 | 29 => 122 | 30 => 123 | 31 => 124 | n => n, fun | 26 => 9 | 28 => 125 | 24 => 32 | 0 => 0 | 3 => 3 | 37 => 127 | 48 => 171 | 50 => 173 | 4 => 4 | 40 => 164 | 39 => 163 | 45 => 138 | 5 => 5 | 9 => 9 | 51 => 174 | 55 => 178 | 57 => 180 | 58 => 181 | 33 => 108 | n => n, fun | n => n⟩
theorem Tryz.sorted73 : Go.Proofs.SlLaysZ.n6 Tryz.prog Tryz.sorted73_ren := {
  mixed := by kernel_rfl
  f6 := ⟨Tryz.f73.name, by decide, Tryz.func73.trans (congrArg some (by kernel_rfl))⟩
  f8 := ⟨Tryz.f93.name, by decide, Tryz.func93.trans (congrArg some (by kernel_rfl))⟩
  f11 := ⟨Tryz.f103.name, by decide, Tryz.func103.trans (congrArg some (by kernel_rfl))⟩
  t0 := Tryz.underlying0
  a0 := Tryz.isAgg0
  z0 := Tryz.sizeOf0
  v0 := Tryz.zeroValue0
  t24 := Tryz.underlying32
  a24 := Tryz.isAgg32
  z24 := Tryz.sizeOf32
  v24 := Tryz.zeroValue32
  t26 := Tryz.underlying9
  a26 := Tryz.isAgg9
  z26 := Tryz.sizeOf9
  v26 := Tryz.zeroValue9
  t28 := Tryz.underlying125
  a28 := Tryz.isAgg125
  z28 := Tryz.sizeOf125
  v28 := Tryz.zeroValue125
  i26 := by kernel_rfl }
def Tryz.sort94_ren : Go.Shelf.Ren := ⟨fun | 6 => 94 | 8 => 105 | 9 => 104 | 19 => 116 | 20 => 117 | 21 => 107 | 22 => 108 | 23 => 109 | 24 => 110 | 25 => 111 | 26 => 112 | 27 => 113 | 28 => 114 | 29 => 115 | 36 => 118 | 31 => 119 | 32 => 120 | 37 => 121 | 38 => 122 | 39 => 123 | 41 => 124 | n => n, fun | 27 => 32 | 29 => 9 | 3 => 3 | 32 => 127 | 26 => 32 | 0 => 0 | 44 => 171 | 46 => 173 | 4 => 4 | 36 => 164 | 35 => 163 | 41 => 138 | 5 => 5 | 9 => 9 | 53 => 174 | 57 => 178 | 63 => 180 | 64 => 181 | n => n, fun | n => n⟩
theorem Tryz.sort94 : Go.Proofs.SlLaysM.n6 Tryz.prog Tryz.sort94_ren := {
  mixed := by kernel_rfl
  f6 := ⟨Tryz.f94.name, by decide, Tryz.func94.trans (congrArg some (by kernel_rfl))⟩
  f8 := Tryz.func105.trans (congrArg some (by kernel_rfl))
  f9 := ⟨Tryz.f104.name, by decide, Tryz.func104.trans (congrArg some (by kernel_rfl))⟩
  f19 := Tryz.func116.trans (congrArg some (by kernel_rfl))
  f20 := Tryz.func117.trans (congrArg some (by kernel_rfl))
  f21 := ⟨Tryz.f107.name, by decide, Tryz.func107.trans (congrArg some (by kernel_rfl))⟩
  f22 := ⟨Tryz.f108.name, by decide, Tryz.func108.trans (congrArg some (by kernel_rfl))⟩
  f23 := ⟨Tryz.f109.name, by decide, Tryz.func109.trans (congrArg some (by kernel_rfl))⟩
  f24 := ⟨Tryz.f110.name, by decide, Tryz.func110.trans (congrArg some (by kernel_rfl))⟩
  f25 := ⟨Tryz.f111.name, by decide, Tryz.func111.trans (congrArg some (by kernel_rfl))⟩
  f26 := ⟨Tryz.f112.name, by decide, Tryz.func112.trans (congrArg some (by kernel_rfl))⟩
  f27 := ⟨Tryz.f113.name, by decide, Tryz.func113.trans (congrArg some (by kernel_rfl))⟩
  f28 := ⟨Tryz.f114.name, by decide, Tryz.func114.trans (congrArg some (by kernel_rfl))⟩
  f29 := ⟨Tryz.f115.name, by decide, Tryz.func115.trans (congrArg some (by kernel_rfl))⟩
  f31 := Tryz.func119.trans (congrArg some (by kernel_rfl))
  f32 := Tryz.func120.trans (congrArg some (by kernel_rfl))
  f36 := ⟨Tryz.f118.name, by decide, Tryz.func118.trans (congrArg some (by kernel_rfl))⟩
  f37 := ⟨Tryz.f121.name, by decide, Tryz.func121.trans (congrArg some (by kernel_rfl))⟩
  f38 := ⟨Tryz.f122.name, by decide, Tryz.func122.trans (congrArg some (by kernel_rfl))⟩
  f39 := ⟨Tryz.f123.name, by decide, Tryz.func123.trans (congrArg some (by kernel_rfl))⟩
  f41 := ⟨Tryz.f124.name, by decide, Tryz.func124.trans (congrArg some (by kernel_rfl))⟩
  t0 := Tryz.underlying0
  a0 := Tryz.isAgg0
  z0 := Tryz.sizeOf0
  v0 := Tryz.zeroValue0
  t3 := Tryz.underlying3
  a3 := Tryz.isAgg3
  z3 := Tryz.sizeOf3
  v3 := Tryz.zeroValue3
  t4 := Tryz.underlying4
  a4 := Tryz.isAgg4
  z4 := Tryz.sizeOf4
  v4 := Tryz.zeroValue4
  t5 := Tryz.underlying5
  a5 := Tryz.isAgg5
  z5 := Tryz.sizeOf5
  v5 := Tryz.zeroValue5
  t9 := Tryz.underlying9
  a9 := Tryz.isAgg9
  z9 := Tryz.sizeOf9
  v9 := Tryz.zeroValue9
  t26 := Tryz.underlying32
  a26 := Tryz.isAgg32
  z26 := Tryz.sizeOf32
  v26 := Tryz.zeroValue32
  t27 := Tryz.underlying32
  a27 := Tryz.isAgg32
  z27 := Tryz.sizeOf32
  v27 := Tryz.zeroValue32
  t29 := Tryz.underlying9
  a29 := Tryz.isAgg9
  z29 := Tryz.sizeOf9
  v29 := Tryz.zeroValue9
  t32 := Tryz.underlying127
  a32 := Tryz.isAgg127
  z32 := Tryz.sizeOf127
  v32 := Tryz.zeroValue127
  t35 := Tryz.underlying163
  a35 := Tryz.isAgg163
  z35 := Tryz.sizeOf163
  v35 := Tryz.zeroValue163
  t36 := Tryz.underlying164
  a36 := Tryz.isAgg164
  z36 := Tryz.sizeOf164
  v36 := Tryz.zeroValue164
  t41 := Tryz.underlying138
  a41 := Tryz.isAgg138
  z41 := Tryz.sizeOf138
  v41 := Tryz.zeroValue138
  t44 := Tryz.underlying171
  a44 := Tryz.isAgg171
  z44 := Tryz.sizeOf171
  v44 := Tryz.zeroValue171
  t46 := Tryz.underlying173
  a46 := Tryz.isAgg173
  z46 := Tryz.sizeOf173
  v46 := Tryz.zeroValue173
  t53 := Tryz.underlying174
  a53 := Tryz.isAgg174
  z53 := Tryz.sizeOf174
  v53 := Tryz.zeroValue174
  t57 := Tryz.underlying178
  a57 := Tryz.isAgg178
  z57 := Tryz.sizeOf178
  v57 := Tryz.zeroValue178
  t63 := Tryz.underlying180
  a63 := Tryz.isAgg180
  z63 := Tryz.sizeOf180
  v63 := Tryz.zeroValue180
  t64 := Tryz.underlying181
  a64 := Tryz.isAgg181
  z64 := Tryz.sizeOf181
  v64 := Tryz.zeroValue181 }

/-- slices.Sort's two contracts at this dump, at the fence that asks nothing. -/
theorem Tryz.sorts73 (m : Nat) : AnyZ.SortsIn Tryz.prog Tryz.sorted73_ren Fence.wide m :=
  ⟨fun blk off cap ss W hH hblk hsz => callsIn_wide.2 (AnyM.slices_Sort_string Tryz.sort94 blk off cap ss W hH hblk hsz),
   fun p cap W => callsIn_wide.2 (AnyM.slices_Sort_string_none Tryz.sort94 p cap W)⟩

/-- **maps.Keys[map[string]*strata/disk.file,string,*strata/disk.file], at whatever map, the nil one too:** a function value over ONE NEW BLOCK, which holds the map. -/
theorem Tryz.maps_Keys_74 (mb : Option Nat) (W : World) : CallsIn Fence.wide 5 Tryz.prog 74 #[.map mb] W fun e w' => e = .returned (.func (.func 95) #[] #[.pointer (some ⟨W.heap.size, 0, none⟩)]) ∧ w' = W.alloc (.cells #[.map mb] 88) :=
  AnyZ.keys_in Tryz.keys74 Fence.wide 5 trivial rfl mb W

set_option maxHeartbeats 1000000 in
/-- **slices.Sorted[string] AT WHAT maps.Keys[map[string]*strata/disk.file,string,*strata/disk.file] HANDED BACK FOR A MAP THAT IS NOT nil** ('w': the world AHEAD of maps.Keys' call): A NEW SLICE THAT HOLDS THE MAP's KEYS, SORTED; nil just where it has none; nothing that lay before has turned. -/
theorem Tryz.slices_Sorted_keys_73_50 {H : Type} (b nn : Nat) (D0 : DataW H) (R : Value → Option (DataW H × List MemPlace)) (w : World) (hown : w.ownsMap Tryz.prog 9 R b nn D0) (hmax : Maps.size D0 ≤ maxLen) (hbytes : Maps.size D0 * 16 ≤ 140737488355328) :
    CallsIn Fence.wide 5 Tryz.prog 73 #[.func (.func 95) #[] #[.pointer (some ⟨w.heap.size, 0, none⟩)]] (w.alloc (.cells #[.map (some b)] 88)) fun e w' => ∃ (v : Value) (ss : List (List UInt8)), e = .returned v ∧ ss.Perm (strKeys D0) ∧
      w'.ownsRow (w.alloc (.cells #[.map (some b)] 88)).heap.size 9 1 v ss.length ((ss.mergeSort (fun x y => decide (x ≤ y))).map encStr) ∧ (v = .slice none 0 0 ↔ ss = []) ∧ Below (w.alloc (.cells #[.map (some b)] 88)).heap.size (w.alloc (.cells #[.map (some b)] 88)) w' := by
  have hbl := hown.lt
  have hseq : SeqGives Fence.wide 2 Tryz.prog 95 #[.pointer (some ⟨w.heap.size, 0, none⟩)] encStr (fun ss => ss.Perm (strKeys D0)) (Maps.size D0) (w.alloc (.cells #[.map (some b)] 88)) :=
    AnyZ.keys_gives (ρ := Tryz.keys74_ren) { Tryz.keys74 with } Fence.wide _ trivial rfl (by omega) w.heap.size b nn D0 _ (by simp) (by simp) (by
      obtain ⟨es, clock, hb, Ft, hs, hD⟩ := hown
      exact ⟨es, clock, (Below.heap_alloc _ _ b hbl).trans hb, Ft, hs, hD⟩)
  exact AnyZ.sorted_in Tryz.sorted73 Fence.wide 5 trivial trivial trivial trivial rfl (by omega) (Tryz.sorts73 _) (enters_of Tryz.func94 (by kernel_rfl) rfl) 95 #[.pointer (some ⟨w.heap.size, 0, none⟩)] trivial (enters_of Tryz.func95 (by kernel_rfl) rfl) _ _ hmax hbytes _ hseq


-- THE CALLER's WALK over 'slices.Sorted(maps.Keys(m))' (inside '(callsIn_wide (n := 6)).1'; 'have hfK : Fence.wide.fn 74 := trivial', 'have hfS : Fence.wide.fn 73 := trivial' ahead): THE TWO ARMS TO PASTE:
--   gi_wp2_with (first
--     | (gi_at_call 74; refine (Tryz.maps_Keys_74 _ _).mono ?_; rintro e w' ⟨rfl, rfl⟩)
--     | (gi_at_call 73; refine (Tryz.slices_Sorted_keys_73_50 b nn D0 R w hown hmax hbytes).mono ?_; rintro e w' ⟨v, ss, rfl, hS, hrow, hnil, hb⟩))


end Go.Proofs
namespace Go.Proofs.YtcpncfngadablaaGreatDoor
open Go.RowKit Go.Deep

section
variable {w w' : World} {E : Nat → Addr} {lo p mf mt : Nat} {D : DiskC}

/-! ### Delete -/
def deleteA (s : ByteArray) (A : PubA) : Int × PubA :=
  if nameB s then
    match findA A.files (nm s) with
    | none => (12, A)
    | some f => (0, { A with files := dropA (nm s) A.files, c := { A.c with calls := A.c.calls + 1, used := A.c.used - f.blocks.length, most := max A.c.most (A.c.used - f.blocks.length) } })
  else (11, A)

set_option maxHeartbeats 400000 in
theorem Delete_of {i : Option Nat} {s : ByteArray} {Post : World → Prop} (h : Calls Tryz.prog 40 #[ptr p, .string s] w fun e w' => e = .returned (i.elim .nilIface (errV E)) ∧ Post w') {v : Int}
    (ha : ∀ w1, Post w1 → Calls Tryz.prog 33 #[ptr p, i.elim .nilIface (errV E)] w1 fun e w' => e = .returned (.int .i64 v) ∧ w' = w1) :
    Calls Tryz.prog 16 #[ptr p, .string s] w fun e w' => e = .returned (.int .i64 v) ∧ Post w' := by
  have H := hid h
  have HA := hid ha
  clear h ha
  go_enter Tryz.func16, Tryz.ntmps16
  go_wp2_with (first | (go_at_call 40; refine H.out.mono ?_; rintro e w1 ⟨rfl, hp⟩) | (go_at_call 33; refine (HA.out _ hp).mono ?_; rintro e w2 ⟨rfl, rfl⟩))
  go_ret
  exact ⟨rfl, hp⟩

theorem foot_drop {k : List UInt8} {D' : DiskC} (he : D'.ents = dropE k D.ents) : ∀ b ∈ D'.foot p mf mt, b ∈ D.foot p mf mt ∨ w.heap.size ≤ b := by
  intro b hb
  simp only [DiskC.foot, List.mem_cons, List.mem_flatMap, he] at hb ⊢
  rcases hb with h | h | h | ⟨x, hx, h⟩
  · exact .inl (.inl h)
  · exact .inl (.inr (.inl h))
  · exact .inl (.inr (.inr (.inl h)))
  · exact .inl (.inr (.inr (.inr ⟨x, (List.mem_filter.1 hx).1, h⟩)))

end

/-! ### append to a file's blocks -/
theorem Tryz.info31 : (Tryz.prog.info? 31).map (fun i => (i.zero, i.size, i.bytes)) = some (some (.slice none 0 0), 1, 24) := by kernel_rfl

theorem run_append_fresh (w : World) (ty : TypeId) (v : Value) (n : Nat) (xs : List Value) (hown : w.ownsRow 0 31 1 v n xs) (ad : Addr) (u : Value) (hu : w.cell? ad = some u) (h1 : u.oneCell' = true) (hn : n ≤ 1099511627776) :
    ∃ v' w', (Builtin.append_ #[51, 51] ty #[v, .slice (some ad) 1 1]).run Tryz.prog w = .ok v' w' ∧ w'.ownsRow 0 31 1 v' (n + 1) (xs ++ [u]) ∧ w.grownBy w' v.ownBlock ∧ (v'.ownBlock = v.ownBlock ∨ v'.ownBlock = some w.heap.size) ∧ v'.ownBlock ≠ none := by
  obtain ⟨i, hi, hz0, hz1, hz2⟩ := info_parts Tryz.info31
  have hnews : ∀ j x, [u][j]? = some x → w.cell? (ad.add j) = some x := by
    intro j x hx
    cases j with
    | zero => simp at hx; subst hx; simpa [Addr.add] using hu
    | succ j => simp at hx
  have h1' : ∀ x ∈ [u], x.oneCell' = true := by simpa using h1
  obtain ⟨v', w', hr, ho, hg, hnil⟩ := run_append_own (P := Tryz.prog) w 0 51 ty 31 i (.slice none 0 0) 1 24 Tryz.underlying51 hi hz0 hz1 hz2 rfl (by decide) v n xs hown ad 1 1 [u] rfl hnews h1' (by unfold maxLen; omega) (by omega) (Nat.zero_le _)
  refine ⟨v', w', hr, ho, hg, ?_, ?_⟩
  · rcases hown.2 with ⟨rfl, rfl⟩ | ⟨g, cap, cur, rfl, hbg, hgg, hnc, hcm, hcs, htake⟩
    · have hx : xs = [] := List.eq_nil_of_length_eq_zero (by simpa using hown.1)
      subst hx
      have hr' := run_append_nil (P := Tryz.prog) w 51 ty 31 i (.slice none 0 0) Tryz.underlying51 hi hz0 ad 1 1 [u] (by rw [hz1]; rfl) hnews (by omega) (by omega) (by rw [hz2]; omega)
      rw [hr] at hr'
      simp only [Result.ok.injEq] at hr'
      right
      rw [hr'.1]
      rfl
    · by_cases hroom : n + 1 ≤ cap
      · have hr' := run_append_room (P := Tryz.prog) w 51 ty 31 i Tryz.underlying51 hi g n cap cur hgg ad 1 1 [u] (by rw [hz1]; rfl) hnews h1' hroom (by rw [hz1, hcs]; simp; omega)
        rw [hr] at hr'
        simp only [Result.ok.injEq] at hr'
        left
        rw [hr'.1]
        rfl
      · have hr' := run_append_grow (P := Tryz.prog) w 51 ty 31 i (.slice none 0 0) Tryz.underlying51 hi hz0 ⟨g, 0, none⟩ n cap xs (by rw [hz1]; exact hown.1) (hown.cells (g := g) rfl) ad 1 1 [u] (by rw [hz1]; rfl) hnews (by omega) (by omega) (by rw [hz2]; exact growslice_fits (by omega) (by omega))
        rw [hr] at hr'
        simp only [Result.ok.injEq] at hr'
        right
        rw [hr'.1]
        rfl
  · rcases ho.2 with ⟨h, h2⟩ | ⟨g, cap, cur, h, _⟩
    · omega
    · rw [h]; simp [Value.ownBlock]

/-- that append, as one step of a region that draws. -/
theorem step_append_fresh {ops : Array Oper} {o : Oper} {a : Act} {w : World} {K : Act → World → Prop} {Q : Exit → Act → World → Prop} {X : Prop}
    (hg : o.guard = none) (s x : Operand) (hop : o.op = Op.call { callee := Callee.builtin Builtin.append, args := #[s, x], argTypes := #[51, 51] })
    (v : Value) (n : Nat) (xs : List Value) (ad : Addr) (u : Value) (hs : a.eval s = v) (hx : a.eval x = .slice (some ad) 1 1) (hown : w.ownsRow 0 31 1 v n xs) (hu : w.cell? ad = some u) (h1 : u.oneCell' = true) (hn : n ≤ 1099511627776)
    (hK : ∀ g cap w', w'.ownsRow 0 31 1 (.slice (some ⟨g, 0, none⟩) (n + 1) cap) (n + 1) (xs ++ [u]) → w.grownBy w' v.ownBlock → (some g = v.ownBlock ∨ g = w.heap.size) → K (a.put o.dst (.slice (some ⟨g, 0, none⟩) (n + 1) cap)) w') :
    if Region.wanted o (yielded ops a.tmps) = true then Oper.wp Tryz.prog o a w K Q else X := by
  have hw : Region.wanted o (yielded ops a.tmps) = true := by simp [Region.wanted, hg]
  rw [if_pos hw]
  obtain ⟨v', w', hrun, r1, r2, r3, r4⟩ := run_append_fresh w o.type v n xs hown ad u hu h1 hn
  have hv : ∃ g cap, v' = .slice (some ⟨g, 0, none⟩) (n + 1) cap := by
    rcases r1.2 with ⟨_, h⟩ | ⟨g, cap, _, h, _⟩
    · omega
    · exact ⟨g, cap, h⟩
  obtain ⟨g, cap, rfl⟩ := hv
  unfold Oper.wp
  simp [execOp, hop, resolve, invoke, builtin, hs, hx, hrun, Result.andThen]
  exact hK g cap w' r1 r2 (by rcases r3 with h | h; exact .inl h; right; simpa [Value.ownBlock] using h)

theorem ownsRow_touch {w w' : World} {F : List Nat} {v : Value} {n : Nat} {xs : List Value} (h : w.ownsRow 0 31 1 v n xs) (ht : Touch F w w') (hF : ∀ x, v.ownBlock = some x → x ∉ F) : w'.ownsRow 0 31 1 v n xs := by
  refine ⟨h.1, ?_⟩
  rcases h.2 with hn | ⟨g, cap, cur, rfl, hb, hg, rest⟩
  · exact .inl hn
  · exact .inr ⟨g, cap, cur, rfl, hb, (ht.block g (lt_of_block hg) (hF g rfl)).trans hg, rest⟩
end Go.Proofs.YtcpncfngadablaaGreatDoor
namespace Go.Proofs.YtcpncfngadablaaGreatDoor
open Go.RowKit Go.Deep

theorem before_lt : ∀ a b : List UInt8, bytesBefore a b = true → a < b
  | [], [], h => by simp [bytesBefore] at h
  | [], _ :: _, _ => by simp
  | _ :: _, [], h => by simp [bytesBefore] at h
  | a :: r, b :: s, h => by
    simp only [bytesBefore, Bool.or_eq_true, decide_eq_true_eq, Bool.and_eq_true, beq_iff_eq] at h
    rw [List.cons_lt_cons_iff]
    rcases h with h | ⟨rfl, h⟩
    · exact .inl h
    · exact .inr ⟨rfl, before_lt r s h⟩

section
variable {w w' : World} {E : Nat → Addr} {lo p mf mt : Nat} {D : DiskC}

theorem Rep.rising (R : Rep w lo p mf mt D) : D.ents.Pairwise fun a b => bytesBefore a.name b.name = true := by
  obtain ⟨es, clock, hb, F, hs, hD⟩ := R.files
  simp only [mapOf, DataW.map.injEq] at hD
  have hu := R.uniq
  have hk : ChangeMaps.StrKeys (D.ents.map Ent.key) := fun x hx => by
    obtain ⟨e, _, rfl⟩ := List.mem_map.1 hx
    exact ⟨_, rfl⟩
  have hpw : (D.ents.map Ent.key).Pairwise fun p q => p.1 ≠ q.1 := by
    rw [List.pairwise_map]
    exact hu.imp fun h e => h (by simpa [Ent.key] using e)
  have hperm := WideShapes.sorted_perm (es.toList.map (WideElems.rg Tryz.prog 9 ptrElem))
  rw [← hD] at hperm
  have hk' := ChangeMaps.strKeys_perm hperm hk
  have hpw' := (hperm.pairwise_iff (fun h => Ne.symm h)).1 hpw
  have h := ChangeMaps.sorted_sorted _ hk' hpw'
  rw [← hD, List.pairwise_map] at h
  exact h

theorem Rep.names_sorted (R : Rep w lo p mf mt D) {ss : List (List UInt8)} (h : ss.Perm (strKeys (mapOf D.ents))) : ss.mergeSort (fun x y => decide (x ≤ y)) = D.ents.map Ent.name := by
  have hk : strKeys (mapOf D.ents) = D.ents.map Ent.name := by
    simp only [strKeys, mapOf, List.map_map]
    rfl
  rw [hk] at h
  have e1 := mergeSort_of_perm h
  have e2 : (D.ents.map Ent.name).mergeSort (fun x y => decide (x ≤ y)) = D.ents.map Ent.name := by
    apply List.mergeSort_of_pairwise
    rw [List.pairwise_map]
    refine R.rising.imp fun h => ?_
    simp only [decide_eq_true_eq]
    exact List.le_of_lt (before_lt _ _ h)
  exact e1.trans e2

/-! ### rising, Names -/
set_option maxHeartbeats 1000000 in
theorem rising_any (R : Rep w lo p mf mt D) (hS : D.ents.length ≤ 1099511627776) :
    Calls Tryz.prog 37 #[ptr p] w fun e w' => ∃ v, e = .returned v ∧ w'.ownsRow w.heap.size 9 1 v D.ents.length ((D.ents.map Ent.name).map encStr) ∧ (v = .slice none 0 0 ↔ D.ents = []) ∧ Below w.heap.size w w' := by
  have k3 := R.cell 3
  simp only [dRow] at k3
  have hsz : Maps.size (mapOf D.ents) = D.ents.length := by simp [mapOf, Maps.size]
  have HK := hid (fun W => callsIn_wide.1 (Tryz.maps_Keys_74 (some mf) W))
  have HS := hid (callsIn_wide.1 (Tryz.slices_Sorted_keys_73_50 mf D.ents.length (mapOf D.ents) ptrElem w R.files (by rw [hsz]; unfold maxLen; omega) (by rw [hsz]; omega)))
  have HR := hid R
  clear hsz R
  go_enter Tryz.func37, Tryz.ntmps37
  go_wp2_with (first
    | (go_at_call 74; refine (HK.out _).mono ?_; rintro e w' ⟨rfl, rfl⟩)
    | (go_at_call 73; refine HS.out.mono ?_; rintro e w' ⟨v, ss, rfl, hP, hrow, hnil, hb⟩))
  go_ret
  have hn := HR.out.names_sorted hP
  have hl : ss.length = D.ents.length := by
    rw [hP.length_eq]
    simp [strKeys, mapOf]
  rw [hn, hl] at hrow
  refine ⟨v, rfl, ⟨hrow.1, ?_⟩, ?_, ((Below.refl _ w).alloc (Nat.le_refl _) _).trans (hb.mono (by simp))⟩
  · rcases hrow.2 with h | ⟨g, cap, cur, h, hbg, r⟩
    · exact .inl h
    · exact .inr ⟨g, cap, cur, h, by simp at hbg; omega, r⟩
  · rw [hnil]
    constructor
    · intro h; subst h; exact List.eq_nil_of_length_eq_zero (by simpa using hl.symm)
    · intro h; rw [h] at hl; exact List.eq_nil_of_length_eq_zero (by simpa using hl)
end
end Go.Proofs.YtcpncfngadablaaGreatDoor
namespace Go.Proofs.YtcpncfngadablaaGreatDoor
open Go.RowKit Go.Deep

/-- that append, in a walk. -/
theorem wpList_append_fresh (w : World) {ops : Array Oper} {rest : List Oper} {o : Oper} {a : Act} {Q : Exit → Act → World → Prop} (hgd : o.guard = none) (s x : Operand)
    (hop : o.op = Op.call { callee := Callee.builtin Builtin.append, args := #[s, x], argTypes := #[51, 51] })
    (v : Value) (n : Nat) (xs : List Value) (ad : Addr) (u : Value) (hs : a.eval s = v) (hx : a.eval x = .slice (some ad) 1 1) (hown : w.ownsRow 0 31 1 v n xs) (hu : w.cell? ad = some u) (h1 : u.oneCell' = true) (hn : n ≤ 1099511627776)
    (hK : ∀ v' w', w'.ownsRow 0 31 1 v' (n + 1) (xs ++ [u]) → w.grownBy w' v.ownBlock → (v'.ownBlock = v.ownBlock ∨ v'.ownBlock = some w.heap.size) → wpList Tryz.prog ops Q rest (a.put o.dst v') w') : wpList Tryz.prog ops Q (o :: rest) a w := by
  refine wpList_plain hgd fun K' hK' => ?_
  obtain ⟨v', w', hrun, r1, r2, r3, r4⟩ := run_append_fresh w o.type v n xs hown ad u hu h1 hn
  unfold Oper.wp
  simp [execOp, hop, resolve, invoke, builtin, hs, hx, hrun, Result.andThen]
  exact hK' _ _ (hK v' w' r1 r2 r3)

/-- Blocks lie behind a slice: sv the slice, bs where each block lies. -/
structure BlocksAt (w : World) (B : Nat) (sv : Value) (bs : List Nat) (blocks : List (List UInt8)) : Prop where
  own : w.ownsRow 0 31 1 sv blocks.length (bs.map fun b => sliceV b B)
  bytes : ∀ (i b : Nat) (bl : List UInt8), bs[i]? = some b → blocks[i]? = some bl → bl.length = B ∧ BytesAt w b bl

theorem BlocksAt.len {w : World} {B : Nat} {sv : Value} {bs : List Nat} {blocks : List (List UInt8)} (h : BlocksAt w B sv bs blocks) : bs.length = blocks.length := by simpa using h.own.1
theorem FileAt.blocksAt {w : World} {B : Nat} {L : Lay} {f : FileA} (h : FileAt w B L f) : BlocksAt w B L.sv L.bs f.blocks := ⟨h.own, h.bytes⟩

/-- block i, where it lies. -/
theorem BlocksAt.at {w : World} {B : Nat} {sv : Value} {bs : List Nat} {blocks : List (List UInt8)} (h : BlocksAt w B sv bs blocks) {i : Nat} (hi : i < blocks.length) :
    ∃ g cap b, sv = .slice (some ⟨g, 0, none⟩) blocks.length cap ∧ w.cell? ⟨g, i, none⟩ = some (sliceV b B) ∧ blocks[i].length = B ∧ BytesAt w b blocks[i] ∧ bs[i]? = some b := by
  have hlen := h.len
  have hb : bs[i]? = some (bs[i]'(by omega)) := List.getElem?_eq_getElem (by omega)
  have hbl := h.bytes i _ blocks[i] hb (List.getElem?_eq_getElem hi)
  rcases h.own.2 with ⟨_, h2⟩ | ⟨g, cap, cur, h1, _, hg, hc, _⟩
  · omega
  · refine ⟨g, cap, _, h1, ?_, hbl.1, hbl.2, hb⟩
    have hc2 := h.own.cells (g := g) (by rw [h1]; rfl) i (sliceV (bs[i]'(by omega)) B) (by simp [hb])
    have hadd : (⟨g, 0, none⟩ : Addr).add i = ⟨g, i, none⟩ := by unfold Addr.add; split <;> simp_all
    rw [hadd] at hc2
    exact hc2

/-- all of it lies from n on. -/
def FreshB (n : Nat) (sv : Value) (bs : List Nat) : Prop := (∀ x, sv.ownBlock = some x → n ≤ x) ∧ (∀ b ∈ bs, n ≤ b) ∧ (sv.ownBlock.toList ++ bs).Nodup

theorem BlocksAt.lt {w : World} {B : Nat} {sv : Value} {bs : List Nat} {blocks : List (List UInt8)} (h : BlocksAt w B sv bs blocks) : (∀ x, sv.ownBlock = some x → x < w.heap.size) ∧ ∀ b ∈ bs, b < w.heap.size := by
  refine ⟨fun x hx => (h.own.lt x hx).2, fun b hb => ?_⟩
  obtain ⟨i, hi, rfl⟩ := List.getElem_of_mem hb
  exact lt_of_block (h.bytes i _ (blocks[i]'(by rw [← h.len]; exact hi)) (List.getElem?_eq_getElem hi) (List.getElem?_eq_getElem _)).2

theorem BlocksAt.kept {w w' : World} {B : Nat} {sv : Value} {bs : List Nat} {blocks : List (List UInt8)} (h : BlocksAt w B sv bs blocks) (hk : ∀ b, (sv.ownBlock = some b ∨ b ∈ bs) → w'.heap[b]? = w.heap[b]?) : BlocksAt w' B sv bs blocks := by
  refine ⟨⟨h.own.1, ?_⟩, fun i b bl hb hbl => ?_⟩
  · rcases h.own.2 with hn | ⟨g, cap, cur, hv, hb, hg, rest⟩
    · exact .inl hn
    · exact .inr ⟨g, cap, cur, hv, hb, (hk g (.inl (by rw [hv]; rfl))).trans hg, rest⟩
  · have := h.bytes i b bl hb hbl
    exact ⟨this.1, (hk b (.inr (List.mem_of_getElem? hb))).trans this.2⟩

/-- one more block behind them. -/
theorem BlocksAt.snoc {w w2 w3 : World} {B n g : Nat} {sv v' : Value} {bs : List Nat} {blocks : List (List UInt8)} {nb : List UInt8} {o : Obj} (h : BlocksAt w B sv bs blocks) (hf : FreshB n sv bs) (hn : n ≤ w.heap.size) (hg : w.heap.size ≤ g) (hg2 : g < w2.heap.size) (h2 : Touch [] w w2) (hnb : nb.length = B) (hb : BytesAt w2 g nb)
    (hown : w3.ownsRow 0 31 1 v' (blocks.length + 1) ((bs.map fun b => sliceV b B) ++ [sliceV g B])) (hgr : (w2.alloc o).grownBy w3 sv.ownBlock) (hfr : v'.ownBlock = sv.ownBlock ∨ v'.ownBlock = some (w2.alloc o).heap.size) :
    BlocksAt w3 B v' (bs ++ [g]) (blocks ++ [nb]) ∧ FreshB n v' (bs ++ [g]) ∧ Touch sv.ownBlock.toList w w3 := by
  have hlen := h.len
  have hs2 := h2.size
  obtain ⟨hf1, hf2, hf3⟩ := hf
  obtain ⟨l1, l2⟩ := h.lt
  rw [List.nodup_append] at hf3
  have hsz : (w2.alloc o).heap.size = w2.heap.size + 1 := by simp
  refine ⟨⟨?_, ?_⟩, ⟨?_, ?_, ?_⟩, ?_⟩
  · simpa using hown
  · intro i b bl hb' hbl
    by_cases hi : i < bs.length
    · rw [List.getElem?_append_left hi] at hb'
      rw [List.getElem?_append_left (by omega)] at hbl
      have h1 := h.bytes i b bl hb' hbl
      have hm := List.mem_of_getElem? hb'
      have hlt := l2 b hm
      refine ⟨h1.1, ?_⟩
      show w3.heap[b]? = _
      rw [hgr.block _ (by omega) (fun e => hf3.2.2 b (by simp [← e]) b hm rfl), Below.heap_alloc _ _ _ (by omega), h2.block _ hlt (by simp)]
      exact h1.2
    · have hi' : i = bs.length := by
        have := (List.getElem?_eq_some_iff.1 hb').1
        simp at this
        omega
      subst hi'
      simp at hb'
      rw [hlen] at hbl
      simp at hbl
      subst hb' hbl
      refine ⟨hnb, ?_⟩
      show w3.heap[g]? = _
      rw [hgr.block _ (by omega) (fun e => by have := l1 g e.symm; omega), Below.heap_alloc _ _ _ hg2]
      exact hb
  · intro x hx
    rcases hfr with e | e
    · exact hf1 x (e ▸ hx)
    · rw [e] at hx; simp at hx; omega
  · intro b hb
    simp at hb
    rcases hb with hb | rfl
    · exact hf2 b hb
    · omega
  · rw [List.nodup_append]
    refine ⟨by cases v'.ownBlock <;> simp, ?_, ?_⟩
    · rw [List.nodup_append]
      exact ⟨hf3.2.1, by simp, fun x hx y hy => by simp at hy; subst hy; have := l2 x hx; omega⟩
    · intro x hx y hy
      simp only [Option.mem_toList] at hx
      simp only [List.mem_append, List.mem_cons, List.not_mem_nil, or_false] at hy
      rcases hfr with e | e
      · rw [e] at hx
        rcases hy with hy | hy
        · exact hf3.2.2 x (by simp [hx]) y hy
        · have := l1 x hx; omega
      · rw [e] at hx
        simp at hx
        rcases hy with hy | hy
        · have := l2 y hy; omega
        · omega
  · exact ((h2.mono (by simp)).alloc o).grown hgr (fun x hx => .inl (by simp [hx]))

section
variable {w w' : World} {E : Nat → Addr} {lo p mf mt : Nat} {D : DiskC}

set_option maxRecDepth 100000 in
set_option maxHeartbeats 400000 in
theorem copyBlocks_any {B : Nat} {sv : Value} {bs : List Nat} {blocks : List (List UInt8)} (h : BlocksAt w B sv bs blocks) (hB1 : 64 ≤ B) (hB2 : B ≤ 65536) (hn : blocks.length ≤ 1099511627776) :
    Calls Tryz.prog 75 #[sv] w fun e w' => ∃ sv' bs', e = .returned sv' ∧ BlocksAt w' B sv' bs' blocks ∧ FreshB w.heap.size sv' bs' ∧ Below w.heap.size w w' := by
  rcases h.own.2 with ⟨hsv, h2⟩ | ⟨G, gc, _, hsv, _⟩
  · have hbl : blocks = [] := List.eq_nil_of_length_eq_zero h2
    subst hbl
    rw [hsv]
    clear h hsv
    go_enter Tryz.func75, Tryz.ntmps75
    go_wp2
    refine wp_loop_rounds 1 ?_
    rw [rounds_succ]
    go_wp2
    go_ret
    exact ⟨.slice none 0 0, [], rfl, ⟨World.ownsRow_nil _ _ _ _, fun i b bl hb => by simp at hb⟩, ⟨by simp [Value.ownBlock], by simp, by simp [Value.ownBlock]⟩, Below.refl _ _⟩
  · have H := hid h
    have HSV := hid hsv
    rw [hsv]
    clear h hsv
    go_enter Tryz.func75, Tryz.ntmps75
    go_wp2
    go_loopw [3, 8] (fun v i wr => ∃ (k : Nat) (bs' : List Nat), k ≤ blocks.length ∧ i = .int .i64 k ∧ BlocksAt wr B v bs' (blocks.take k) ∧ FreshB w.heap.size v bs' ∧ Below w.heap.size w wr) (fun _ i _ => blocks.length - (intOf i).toNat)
    case atStart => exact ⟨0, [], Nat.zero_le _, rfl, ⟨World.ownsRow_nil _ _ _ _, fun i b bl hb => by simp at hb⟩, ⟨by simp [Value.ownBlock], by simp, by simp [Value.ownBlock]⟩, Below.refl _ _⟩
    case round =>
      obtain ⟨k, bs', hk, rfl, hB, hF, hb⟩ := hrel
      by_cases hlt : k < blocks.length
      · have hsrc : BlocksAt wr B sv bs blocks := H.out.kept fun b hb' => hb.block b (by rcases hb' with h | h; exact H.out.lt.1 b h; exact H.out.lt.2 b h)
        obtain ⟨g, cap, b, e1, cG, hlen, hby, _⟩ := hsrc.at hlt
        rw [HSV.out] at e1
        simp only [Value.slice.injEq, Option.some.injEq, Addr.mk.injEq] at e1
        obtain ⟨⟨rfl, _⟩, hgc⟩ := e1
        clear hgc
        have hl : (blocks.take k).length = k := by simp; omega
        have HC := hid (copy_at hby hlen hB1 hB2)
        have HB := hid hB
        have HF := hid hF
        have HBW := hid hb
        have HL := hid hl
        have HLEN := hid hlen
        clear hsrc hby hB hF hb hl hlen
        go_wp2_with (first
          | (go_at_call 71; refine HC.out.mono ?_; rintro e w2 ⟨rfl, hb2, ht2, hz2⟩; have HB2 := hid hb2; have HT2 := hid ht2; have HZ2 := hid hz2; clear hb2 ht2 hz2)
          | (at_builtin; refine wpList_append_fresh _ rfl _ _ rfl u3 k (bs'.map fun b => sliceV b B) ⟨w2.heap.size, 0, none⟩ (sliceV wr.heap.size B) rfl rfl ?h1 ?h2 rfl ?h3 ?_; rotate_left 3; intro v' w3 r1 r2 r3; have H1 := hid r1; have H2 := hid r2; have H3 := hid r3; clear r1 r2 r3))
        case h1 =>
          have h := ownsRow_touch HB.out.own HT2.out (by simp)
          rw [HL.out] at h
          exact h.alloc _
        case h2 => exact cell_row (heap_alloc_new w2 _) 0
        case h3 => omega
        have hz := HZ2.out
        have hbw := HBW.out.size
        have hl := HL.out
        have hr := HB.out.snoc (nb := blocks[k]) HF.out hbw (Nat.le_refl _) (by omega) HT2.out HLEN.out HB2.out (by rw [hl]; exact H1.out) H2.out H3.out
        have htk : blocks.take (k + 1) = blocks.take k ++ [blocks[k]] := List.take_succ_eq_append_getElem hlt
        have hbel : Below w.heap.size w w3 := HBW.out.trans (hr.2.2.below hbw (fun b hb => HF.out.1 b (by simpa using hb)))
        rw [← htk] at hr
        have HR := hid hr
        have HBE := hid hbel
        clear hr hbel htk hz hl hbw
        go_roundw
        case rel => first | exact ⟨k + 1, bs' ++ [wr.heap.size], by omega, by go_num, HR.out.1, HR.out.2.1, HBE.out⟩ | ((repeat apply Exists.intro); exact ⟨⟨k + 1, bs' ++ [wr.heap.size], by omega, by go_num, HR.out.1, HR.out.2.1, HBE.out⟩, rfl⟩)
        case measure => simp [intOf]; omega
      · go_wp2
        go_ret
        have hk' : k = blocks.length := by omega
        subst hk'
        rw [List.take_length] at hB
        exact ⟨u3, bs', rfl, hB, hF, hb⟩
end
end Go.Proofs.YtcpncfngadablaaGreatDoor
namespace Go.Proofs.YtcpncfngadablaaGreatDoor
open Go.RowKit Go.Deep

section
variable {w w' : World} {E : Nat → Addr} {lo p mf mt : Nat} {D : DiskC}

/-- an operation of a script, as a value. -/
def opV (k : Int) (s : ByteArray) (N bit : Int) (sa : Option Addr) (n c : Nat) : Value := .agg #[.int .i64 k, .string s, .int .i64 N, .int .i64 bit, .slice sa n c]

theorem wpList_append_copy (w : World) {ops : Array Oper} {rest : List Oper} {o : Oper} {a : Act} {Q : Exit → Act → World → Prop} (hgd : o.guard = none) (x : Operand)
    (hop : o.op = Op.call { callee := Callee.builtin Builtin.append, args := #[.const (.slice none 0 0), x], argTypes := #[31, 31] })
    (sa : Option Addr) (n c : Nat) (d : List UInt8) (hx : a.eval x = .slice sa n c) (h : Shows w sa n c d) (hn : n ≤ 1099511627776)
    (hK : ∀ v' w', w'.ownsRow w.heap.size 5 1 v' n (Lib.byteCells d) → Below w.heap.size w w' → wpList Tryz.prog ops Q rest (a.put o.dst v') w') : wpList Tryz.prog ops Q (o :: rest) a w := by
  refine wpList_plain hgd fun K' hK' => ?_
  obtain ⟨v', w', hrun, ho, hb⟩ := run_append_bytes o.type w h hn
  have hs : a.eval (.const (.slice none 0 0)) = .slice none 0 0 := rfl
  unfold Oper.wp
  simp [execOp, hop, resolve, invoke, builtin, hs, hx, hrun, Result.andThen]
  exact hK' _ _ (hK v' w' ho hb)

theorem Shows.touch {sa : Option Addr} {n c : Nat} {d : List UInt8} {F : List Nat} (h : Shows w sa n c d) (ht : Touch F w w') (hF : ∀ a, sa = some a → a.block ∉ F) : Shows w' sa n c d :=
  ⟨h.len, h.cap, fun h0 => by
    obtain ⟨a, e, hl, hc⟩ := h.at_ h0
    exact ⟨a, e, by have := ht.size; omega, fun j v hv => by
      have h1 := hc j v hv
      have hb : (a.add j).block = a.block := by unfold Addr.add; split <;> rfl
      rw [ht.cell (by rw [hb]; exact hl) (by rw [hb]; exact hF a e)]
      exact h1⟩, h.nil⟩

theorem Shows.take {sa : Option Addr} {n c k : Nat} {d : List UInt8} (h : Shows w sa n c d) (hk : k ≤ n) (h0 : 0 < k) : Shows w sa k c (d.take k) := by
  have hl := h.len
  have hc := h.cap
  refine ⟨by rw [List.length_take]; omega, by omega, fun _ => ?_, fun e => by have := h.nil e; omega⟩
  obtain ⟨a, e, ha, hcell⟩ := h.at_ (by omega)
  refine ⟨a, e, ha, fun j v hv => hcell j v ?_⟩
  have : Lib.byteCells d = Lib.byteCells (d.take k) ++ Lib.byteCells (d.drop k) := by rw [← Lib.byteCells_append, List.take_append_drop]
  rw [this, List.getElem?_append_left (List.getElem?_eq_some_iff.1 hv).1]
  exact hv

def lenV : Value → Nat | .slice _ n _ => n | _ => 0

set_option maxRecDepth 100000 in
set_option maxHeartbeats 400000 in
theorem data_any (k : Int) (s : ByteArray) (N bit : Int) {sa : Option Addr} {n c B : Nat} {d : List UInt8} (h : Shows w sa n c d) (hn : n ≤ 1073741824) (hB1 : 64 ≤ B) (hB : B ≤ 65536) :
    Calls Tryz.prog 11 #[opV k s N bit sa n c, .int .i64 B] w fun e w' => ∃ sa' c', e = .returned (.slice sa' (dataA N B d).length c') ∧ Shows w' sa' (dataA N B d).length c' (dataA N B d) ∧ Touch [] w w' ∧ ∀ a, sa' = some a → w.heap.size ≤ a.block := by
  have HS := hid h
  clear h
  have hz : (w.alloc (Obj.cells #[.int .i64 k, .string s, .int .i64 N, .int .i64 bit, .slice sa n c] 40 (0, 0))).heap.size = w.heap.size + 1 := by simp
  obtain ⟨wb, hwb⟩ : ∃ wb, wb = w.alloc (Obj.cells #[.int .i64 k, .string s, .int .i64 N, .int .i64 bit, .slice sa n c] 40 (0, 0)) := ⟨_, rfl⟩
  have hrow : wb.heap[w.heap.size]? = some (.cells #[.int .i64 k, .string s, .int .i64 N, .int .i64 bit, .slice sa n c] 40 (0, 0)) := by rw [hwb]; exact heap_alloc_new _ _
  have HTB : Touch [] w wb := by rw [hwb]; exact (Touch.refl [] w).alloc _
  have c2 := cell_row hrow 2
  have c4 := cell_row hrow 4
  simp at c2 c4
  have HS' := hid (HS.out.touch HTB (by simp))
  have hl := HS.out.len
  rw [← hwb] at hz
  have HWB := hid hwb
  have HROW := hid hrow
  clear hwb hrow
  unfold opV
  go_enter Tryz.func11, Tryz.ntmps11
  go_wp2_with (first
    | (rw [← HWB.out])
    | (at_builtin; refine wpList_append_copy _ rfl _ rfl sa n c d rfl HS'.out (by omega) ?_; intro v1 w1 ho hb; have HO := hid ho; have HB1 := hid hb; have d2 := (hb.cell (p := ⟨w.heap.size, 2, none⟩) (by simp; omega)).trans c2; have HZ := hid hb.size; clear ho hb c4))
  · have hN : N = 0 := by first | assumption | (have := ‹(N == 0) = true›; simpa using this)
    obtain ⟨sa', c', rfl, hs, hge⟩ := shows_own HO.out
    have HSH := hid hs
    have HGE := hid hge
    clear hs hge
    go_wp2
    go_ret
    have e : dataA N B d = d := by unfold dataA; rw [if_pos hN]
    rw [e, HSH.out.len]
    exact ⟨sa', c', rfl, HSH.out, HTB.trans (Touch.of_below (F := []) HB1.out (Nat.le_refl _)) (by simp), fun a ha => by have := HGE.out a ha; omega⟩
  · have hN : N ≠ 0 := by first | assumption | (have := ‹(N == 0) = false›; simpa using this) | (have := ‹¬ (N == 0) = true›; simpa using this)
    have HN := hid hN
    have hNb : (N == 0) = false := by simpa using hN
    rw [hNb]
    clear hNb
    have HTB' := hid HTB
    clear hN HTB
    go_loopw [5] (fun v wr => ∃ m, n ≤ m ∧ (m ≤ B ∨ m = n) ∧ wr.ownsRow wb.heap.size 5 1 v m (Lib.byteCells (d ++ List.replicate (m - n) 0)) ∧ Below wb.heap.size wb wr) (fun v _ => B - lenV v)
    case atStart => exact ⟨n, Nat.le_refl _, .inr rfl, by simpa using HO.out, HB1.out⟩
    case round =>
      obtain ⟨m, hm1, hm2, ho, hb⟩ := hrel
      obtain ⟨sa', c', rfl, hs, hge⟩ := shows_own ho
      have HO2 := hid ho
      have HB2 := hid hb
      have HSH := hid hs
      have hsz := hb.size
      have hcap := hs.cap
      have HGE := hid hge
      clear ho hb hs hge
      by_cases hlt : m < B
      · have h1 : ((m : Int) < (B : Int)) := by omega
        go_wp2_with (first
          | (at_builtin; refine wpList_append_zero _ rfl _ _ rfl wb.heap.size _ m (d ++ List.replicate (m - n) 0) ⟨wr.heap.size, 0, none⟩ rfl rfl (HO2.out.alloc _) (cell_row (heap_alloc_new wr _) 0) (by omega) (by simp; omega) ?_; intro v3 w3 r1 r2; have H1 := hid r1; have H2 := hid r2; clear r1 r2))
        have hr : w3.ownsRow wb.heap.size 5 1 v3 (m + 1) (Lib.byteCells (d ++ List.replicate (m + 1 - n) 0)) := by
          have h := H1.out
          rw [List.append_assoc, ← List.replicate_succ', show m - n + 1 = m + 1 - n by omega] at h
          exact h
        have hbe : Below wb.heap.size wb w3 := (HB2.out.trans (((Below.refl _ wr).alloc (by omega) _))).trans H2.out
        have HR := hid hr
        have HBE := hid hbe
        clear hr hbe
        go_roundw
        case rel => first | exact ⟨m + 1, by omega, by omega, HR.out, HBE.out⟩ | ((repeat apply Exists.intro); exact ⟨⟨m + 1, by omega, by omega, HR.out, HBE.out⟩, rfl⟩)
        case measure =>
          obtain ⟨_, _, e3, _⟩ := shows_own HR.out
          rw [e3]
          simp [lenV]
          omega
      · have h1 : ¬ ((m : Int) < (B : Int)) := by omega
        have hmx : B ≤ c' := by omega
        have HM := hid hmx
        go_wp2
        go_ret
        have hda : dataA N B d = (d ++ List.replicate (m - n) 0).take B := by
          unfold dataA
          rw [if_neg HN.out]
          have hl2 := HS.out.len
          rcases hm2 with h | h
          · have : m = B := by omega
            subst this
            rw [List.take_of_length_le (l := d) (by omega), List.take_of_length_le (by simp; omega), hl2]
          · subst h
            rw [show B - d.length = 0 by omega]
            simp
        have hlen : ((d ++ List.replicate (m - n) 0).take B).length = B := by
          have := HSH.out.len
          rw [List.length_take]
          omega
        rw [hda, hlen]
        refine ⟨sa', c', rfl, HSH.out.take (by omega) (by omega), HTB'.out.trans (Touch.of_below (F := []) HB2.out (Nat.le_refl _)) (by simp), fun a ha => by have := HGE.out a ha; omega⟩

/-! ### blot -/
/-- a row of bytes of one's own, whatever they are. -/
def OwnB (w : World) (base : Nat) (v : Value) (m : Nat) : Prop := ∃ xs, w.ownsRow base 5 1 v m xs ∧ ∀ u ∈ xs, ∃ x : Int, u = .int .u8 x

theorem OwnB.of {base n : Nat} {v : Value} {d : List UInt8} (h : w.ownsRow base 5 1 v n (Lib.byteCells d)) : OwnB w base v n :=
  ⟨_, h, fun u hu => by
    simp only [Lib.byteCells, List.mem_map] at hu
    obtain ⟨x, _, rfl⟩ := hu
    exact ⟨_, rfl⟩⟩


set_option maxRecDepth 100000 in
set_option maxHeartbeats 400000 in
theorem blot_nil : Calls Tryz.prog 24 #[.slice none 0 0] w fun e w' => e = .returned (.tuple #[]) ∧ w' = w := by
  go_enter Tryz.func24, Tryz.ntmps24
  go_wp2
  refine wp_loop_rounds 1 ?_
  rw [rounds_succ]
  go_wp2
  go_end0
  exact ⟨rfl, rfl⟩

set_option maxRecDepth 100000 in
set_option maxHeartbeats 400000 in
theorem blot_row {g m c : Nat} {cs : Array Value} (h : w.heap[g]? = some (.cells cs 5 (0, 0))) (hm : m ≤ cs.size) (hb : ∀ j, j < m → ∃ x : Int, cs[j]? = some (.int .u8 x)) (hm2 : m ≤ 1099511627776) :
    Calls Tryz.prog 24 #[.slice (some ⟨g, 0, none⟩) m c] w fun e w' => e = .returned (.tuple #[]) ∧ (∃ cs' : Array Value, w'.heap[g]? = some (.cells cs' 5 (0, 0)) ∧ cs'.size = cs.size ∧ ∀ j, j < m → ∃ x : Int, cs'[j]? = some (.int .u8 x)) ∧ Touch [g] w w' := by
  have H := hid h
  have HB := hid hb
  clear h hb
  go_enter Tryz.func24, Tryz.ntmps24
  go_wp2
  go_loopw [2] (fun i wr => ∃ k : Nat, k ≤ m ∧ i = .int .i64 k ∧ (∃ cs' : Array Value, wr.heap[g]? = some (.cells cs' 5 (0, 0)) ∧ cs'.size = cs.size ∧ ∀ j, j < m → ∃ x : Int, cs'[j]? = some (.int .u8 x)) ∧ Touch [g] w wr) (fun i _ => m - (intOf i).toNat)
  case atStart => exact ⟨0, Nat.zero_le _, rfl, ⟨cs, H.out, rfl, HB.out⟩, Touch.refl _ _⟩
  case round =>
    obtain ⟨k, hk, rfl, ⟨cs', hrow, hsz, hb⟩, ht⟩ := hrel
    by_cases hlt : k < m
    · obtain ⟨x, hx⟩ := hb k hlt
      have c0 := cell_row hrow k
      rw [hx] at c0
      have f0 := unfrozen_row hrow k
      have HROW := hid hrow
      have HBB := hid hb
      have HT := hid ht
      clear hrow hb ht hx
      go_wp2
      have hrow2 := heap_setCell_row HROW.out k (.int .u8 (bits BinOp.xor .u8 x 165))
      refine ⟨⟨k + 1, by omega, by go_num, ⟨_, hrow2, by simpa using hsz, ?_⟩, HT.out.setCell (by simp) _⟩, by simp [intOf]; omega⟩
      intro j hj
      by_cases e : j = k
      · subst e
        exact ⟨_, by rw [Array.getElem?_setIfInBounds_self_of_lt (by omega)]⟩
      · rw [Array.getElem?_setIfInBounds_ne (by omega)]
        exact HBB.out j hj
    · go_wp2
      go_end0
      exact ⟨rfl, ⟨cs', hrow, hsz, hb⟩, ht⟩

theorem blot_own {base m : Nat} {v : Value} (h : OwnB w base v m) (hm : m ≤ 1099511627776) :
    Calls Tryz.prog 24 #[v] w fun e w' => e = .returned (.tuple #[]) ∧ OwnB w' base v m ∧ Touch v.ownBlock.toList w w' := by
  obtain ⟨xs, ⟨h1, h2⟩, hx⟩ := h
  rcases h2 with ⟨rfl, rfl⟩ | ⟨g, cap, cur, rfl, hb, hg, hc, hcm, hcs, ht⟩
  · exact blot_nil.mono fun e w' ⟨e1, e2⟩ => ⟨e1, by rw [e2]; exact ⟨xs, ⟨h1, .inl ⟨rfl, rfl⟩⟩, hx⟩, by rw [e2]; exact Touch.refl _ _⟩
  · refine (blot_row hg (by omega) (fun j hj => ?_) hm).mono fun e w' ⟨e1, ⟨cs', hg', hs', hb'⟩, ht'⟩ => ⟨e1, ⟨cs'.toList.take (m * 1), ⟨by simp; omega, .inr ⟨g, cap, cs', rfl, hb, hg', hc, hcm, by omega, rfl⟩⟩, ?_⟩, ht'⟩
    · have hj2 : xs[j]? = some (xs[j]'(by omega)) := List.getElem?_eq_getElem (by omega)
      obtain ⟨x, hxx⟩ := hx _ (List.getElem_mem (by omega : j < xs.length))
      refine ⟨x, ?_⟩
      rw [← hxx, ← hj2, ← ht, List.getElem?_take_of_lt (by omega)]
      simp
    · intro u hu
      obtain ⟨j, hj, rfl⟩ := List.getElem_of_mem hu
      have hjm : j < m := by simp at hj; omega
      obtain ⟨x, hxx⟩ := hb' j hjm
      refine ⟨x, ?_⟩
      rw [List.getElem_take, Array.getElem_toList]
      exact (Array.getElem?_eq_some_iff.1 hxx).2

/-- 'append(b, make([]byte, 100)...)' of a slice that is full. -/
theorem run_append_100 (ty : TypeId) {base m : Nat} {sa : Option Addr} (h : OwnB w base (.slice sa m m) m) (hm : m ≤ 65536) :
    ∃ v' w', (Builtin.append_ #[31, 3] ty #[.slice sa m m, .int .i64 100]).run Tryz.prog w = .ok v' w' ∧ OwnB w' w.heap.size v' (m + 100) ∧ Below w.heap.size w w' := by
  obtain ⟨i, hi, hz0, hz1, hz2⟩ := info_parts Tryz.info5
  obtain ⟨xs, ho, hx⟩ := h
  have hold : (Builtin.firstCells i.size m (.slice sa m m)).run Tryz.prog w.drew = .ok xs.toArray w.drew := by
    rw [hz1]
    rcases ho.2 with ⟨e1, rfl⟩ | ⟨g, cap, cur, e1, _, hg, _⟩
    · have : xs = [] := List.eq_nil_of_length_eq_zero (by simpa using ho.1)
      subst this
      simp only [Value.slice.injEq] at e1
      obtain ⟨rfl, _⟩ := e1
      exact run_firstCells_none _ _ _ _ _
    · simp only [Value.slice.injEq] at e1
      obtain ⟨rfl, _, _⟩ := e1
      exact run_firstCells_some (P := Tryz.prog) w.drew 1 m ⟨g, 0, none⟩ m m xs ho.1 (fun j v hv => by simpa using ho.cells (g := g) rfl j v hv)
  have hr := Lib.run_append_grow_zeros (P := Tryz.prog) w 31 3 ty 5 i (.int .u8 0) .i64 .i64 Tryz.underlying31 Tryz.underlying3 hi hz0 sa m m xs hold 100 (by omega) (by omega) (by omega) (by omega) (by omega) (by have := nextslicecap_le (need := m + 100) (old := m) (by omega); rw [hz2]; omega)
  refine ⟨_, _, hr, ⟨xs ++ List.replicate 100 (.int .u8 0), ⟨by simp [ho.1], .inr ⟨w.heap.size, _, _, rfl, Nat.le_refl _, heap_alloc_new w.drew _, grownCap_ge _ _ _ _, grownCap_le_maxLen _ _ _ _ (by unfold maxLen; omega), ?_, ?_⟩⟩, ?_⟩, ?_⟩
  · have := grownCap_ge w (m + 100) m 5
    have h1 := ho.1
    simp only [Array.size_append, List.size_toArray, size_zeroCells]
    simp [Value.cells]
    omega
  · have hz : (Builtin.zeroCells (Value.cells (.int .u8 0)) 100).toList = List.replicate 100 (.int .u8 0) := by
      apply List.ext_getElem
      · simp [Builtin.zeroCells, Value.cells]
      · intro j h1 h2
        rw [List.getElem_replicate]
        simp [Builtin.zeroCells, Value.cells, Nat.mod_one]
    have h1 := ho.1
    simp only [Array.toList_append, hz, List.append_assoc]
    rw [← List.append_assoc, List.take_left' (by simp [h1])]
  · intro u hu
    simp only [List.mem_append, List.mem_replicate] at hu
    rcases hu with hu | ⟨_, rfl⟩
    · exact hx u hu
    · exact ⟨0, rfl⟩
  · exact (Below.refl _ w).drew.alloc (Nat.le_refl _) _
end
end Go.Proofs.YtcpncfngadablaaGreatDoor
