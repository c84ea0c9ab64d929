import Derived.Test.YtdkboifpdodonacGreatDoorZ21
set_option linter.unusedSimpArgs false
/-
 The document's own Parse: one token.
-/
namespace Go.Proofs.YtdkboifpdodonacGreatDoor.Ref
open Go.RowKit Go.Deep PureCnf PureForm
set_option maxRecDepth 100000

set_option maxHeartbeats 4000000 in
set_option maxRecDepth 100000 in
theorem sw1_many (s : ByteArray) (w wf w1 W2 : World) (q : Nat) (st : List Wt) (out : List Nd) (made  quant  tn ta te : Nat) (sv ov : Value) (r : Ref) (_hs : s.size ≤ 1048576) (_hq : q ≤ s.size) (_hlen : st.length + out.length ≤ q) (_k2 : quant ≤ 5) (_k3 : made ≤ 65536) (_k4 : opnOf st ≤ 64) (_HK5 : Hid (okSt st)) (_HK6 : Hid (∀ w ∈ st, w.op ≤ 100))
  (HTK : Hid (TokOk s.data.toList q ⟨7, tn, ta, te⟩)) (HRK : Hid (r.tk = some (w1.heap.size, #[.int .i64 (7 : Int), .int .i64 (tn : Int), .int .i64 (ta : Int), .int .i64 (te : Int)]))) (M2 : Hid (MacR r W2 wf.heap.size wf.heap.size st out (opnOf st : Int) made sv ov)) (hm : 65536 ≤ made)
  (u2 u10 u11 u23 u24 u25 u26 u27 u28 u29 u30 u31 u32 u33 u34 u35 u36 u37 u38 u39 u40 u41 u42 u43 u44 u45 u46 u47 u48 u49 u50 u51 u52 u53 u54 u55 u56 u57 u58 u59 u60 u61 u62 u63 u64 u65 u66 u67 u68 u69 u70 u71 u72 u73 u74 u75 u76 u77 u78 u79 u80 u81 u82 u83 u84 u85 u86 u87 u88 u89 u90 u91 u92 u93 u94 u95 u96 u97 u98 u99 u100 u101 u102 u103 u104 u105 u106 u107 u108 u109 u110 u111 u112 u113 u114 u115 u116 u117 u118 u119 u120 u121 u122 u123 u124 u125 u126 u127 u128 u129 u130 u131 u132 u133 u134 u135 u136 u137 u138 u139 u140 u141 u142 u143 u144 u145 u146 u147 u148 u149 u150 u151 u152 u153 u154 u155 u156 u157 u158 u159 u160 u161 u162 u163 u164 u165 u166 u167 u168 u169 u170 u171 u172 u173 u174 u175 u176 u177 u178 u179 : Value) (K : Act → World → Prop) (Q : Exit → Act → World → Prop)
  (hK : ∀ (x5 x6 x9 x10 x23 x24 x25 x26 x27 x28 x29 x30 x31 x32 x33 x34 x35 x36 x37 x38 x39 x40 x41 x42 x43 x44 x45 x46 x47 x48 x49 x50 x51 x52 x53 x54 x55 x56 x57 x58 x59 x60 x61 x62 x63 x64 x65 x66 x67 x68 x69 x70 x71 x72 x73 x74 x75 x76 x77 x78 x79 x80 x81 x82 x83 x84 x85 x86 x87 x88 x89 x90 x91 x92 x93 x94 x95 x96 x97 x98 x99 x100 x101 x102 x103 x104 x105 x106 x107 x108 x109 x110 x111 x112 x113 x114 x115 x116 x117 x118 x119 x120 x121 x122 x123 x124 x125 x126 x127 x128 x129 x130 x131 x132 x133 x134 x135 x136 x137 x138 x139 x140 x141 x142 x143 x144 x145 x146 x147 x148 x149 x150 x151 x152 x153 x154 x155 x156 x157 x158 x159 x160 x161 x162 x163 x164 x165 x166 x167 x168 x169 x170 : Value) (wx : World), After ⟨st, out, made, 1, quant⟩ ⟨7, tn, ta, te⟩ r wf.heap.size wf.heap.size x5 x6 x9 wx → K { tmps := #[.string s, undef, u2, .pointer (some ⟨w.heap.size, 0, none⟩), .pointer (some ⟨wf.heap.size, 0, none⟩), x5, x6, .int .i64 (te : Int), .pointer (some ⟨w1.heap.size, 0, none⟩), x9, x10, u11, .string s, .int .i64 (s.size : Int), .bool (decide (1048576 < (s.size : Int))), undef, .agg #[.slice none 0 0, .slice none 0 0, .int .i64 0, .int .i64 0], .pointer (some ⟨wf.heap.size, 0, none⟩), .string s, .int .i64 (q : Int), .agg #[.int .i64 (7 : Int), .int .i64 (tn : Int), .int .i64 (ta : Int), .int .i64 (te : Int)], .pointer (some ⟨w1.heap.size, 3, none⟩), .int .i64 (te : Int), x23, x24, x25, x26, x27, x28, x29, x30, x31, x32, x33, x34, x35, x36, x37, x38, x39, x40, x41, x42, x43, x44, x45, x46, x47, x48, x49, x50, x51, x52, x53, x54, x55, x56, x57, x58, x59, x60, x61, x62, x63, x64, x65, x66, x67, x68, x69, x70, x71, x72, x73, x74, x75, x76, x77, x78, x79, x80, x81, x82, x83, x84, x85, x86, x87, x88, x89, x90, x91, x92, x93, x94, x95, x96, x97, x98, x99, x100, x101, x102, x103, x104, x105, x106, x107, x108, x109, x110, x111, x112, x113, x114, x115, x116, x117, x118, x119, x120, x121, x122, x123, x124, x125, x126, x127, x128, x129, x130, x131, x132, x133, x134, x135, x136, x137, x138, x139, x140, x141, x142, x143, x144, x145, x146, x147, x148, x149, x150, x151, x152, x153, x154, x155, x156, x157, x158, x159, x160, x161, x162, x163, x164, x165, x166, x167, x168, x169, x170, u171, u172, u173, u174, u175, u176, u177, u178, u179], defers := [] } wx) :
  Code.wp Tryz.prog (((Tryz.f7.body.bind (findBlk 2))).getD .skip) (Exit.then K Q) { tmps := #[.string s, undef, u2, .pointer (some ⟨w.heap.size, 0, none⟩), .pointer (some ⟨wf.heap.size, 0, none⟩), .int .i64 (1 : Int), .int .i64 (quant : Int), .int .i64 (te : Int), .pointer (some ⟨w1.heap.size, 0, none⟩), .int .i64 0, u10, u11, .string s, .int .i64 (s.size : Int), .bool (decide (1048576 < (s.size : Int))), undef, .agg #[.slice none 0 0, .slice none 0 0, .int .i64 0, .int .i64 0], .pointer (some ⟨wf.heap.size, 0, none⟩), .string s, .int .i64 (q : Int), .agg #[.int .i64 (7 : Int), .int .i64 (tn : Int), .int .i64 (ta : Int), .int .i64 (te : Int)], .pointer (some ⟨w1.heap.size, 3, none⟩), .int .i64 (te : Int), u23, u24, u25, u26, u27, u28, u29, u30, u31, u32, u33, u34, u35, u36, u37, u38, u39, u40, u41, u42, u43, u44, u45, u46, u47, u48, u49, u50, u51, u52, u53, u54, u55, u56, u57, u58, u59, u60, u61, u62, u63, u64, u65, u66, u67, u68, u69, u70, u71, u72, u73, u74, u75, u76, u77, u78, u79, u80, u81, u82, u83, u84, u85, u86, u87, u88, u89, u90, u91, u92, u93, u94, u95, u96, u97, u98, u99, u100, u101, u102, u103, u104, u105, u106, u107, u108, u109, u110, u111, u112, u113, u114, u115, u116, u117, u118, u119, u120, u121, u122, u123, u124, u125, u126, u127, u128, u129, u130, u131, u132, u133, u134, u135, u136, u137, u138, u139, u140, u141, u142, u143, u144, u145, u146, u147, u148, u149, u150, u151, u152, u153, u154, u155, u156, u157, u158, u159, u160, u161, u162, u163, u164, u165, u166, u167, u168, u169, u170, u171, u172, u173, u174, u175, u176, u177, u178, u179], defers := [] } W2 := by
 have HK := hid hK
 have c2 := fun j => cell_row M2.out.row j
 have f2 := fun j => unfrozen_row M2.out.row j
 have hb2 := M2.out.size
 have tr := M2.out.tok _ _ HRK.out
 have tc := fun j => cell_row tr j
 have htb := (Array.getElem?_eq_some_iff.1 tr).1
 have htn := HTK.out.num
 have hkd := HTK.out.kind
 dsimp only at htn hkd
 clear hK tr
 conv in (Option.getD _ _) => whnf
 have HP := hid (operator_no M2.out tn hm)
 go_wp2_with (go_at_call 21; refine HP.out.mono ?_; rintro e w3 ⟨rfl, sx, ox, kx, mx, svx, ovx, m3⟩; have c3 := fun j => cell_row m3.row j; have f3 := fun j => unfrozen_row m3.row j; have hb3 := m3.size; have tr3 := m3.tok _ _ HRK.out; have tc3 := fun j => cell_row tr3 j; have ht3 := (Array.getElem?_eq_some_iff.1 tr3).1; have M3 := hid m3; clear m3 tr3)
 refine HK.out _ _ _ _ _ _ _ _ _ _ _ _ _ _ _ _ _ _ _ _ _ _ _ _ _ _ _ _ _ _ _ _ _ _ _ _ _ _ _ _ _ _ _ _ _ _ _ _ _ _ _ _ _ _ _ _ _ _ _ _ _ _ _ _ _ _ _ _ _ _ _ _ _ _ _ _ _ _ _ _ _ _ _ _ _ _ _ _ _ _ _ _ _ _ _ _ _ _ _ _ _ _ _ _ _ _ _ _ _ _ _ _ _ _ _ _ _ _ _ _ _ _ _ _ _ _ _ _ _ _ _ _ _ _ _ _ _ _ _ _ _ _ _ _ _ _ _ _ _ _ _ _ _ ?_
 exact .inl ⟨8, by decide, rfl, by simp [stepP]; omega, M3.out.asE⟩

set_option maxHeartbeats 4000000 in
set_option maxRecDepth 100000 in
theorem sw1_oper (s : ByteArray) (w wf w1 W2 : World) (q : Nat) (st : List Wt) (out : List Nd) (made  quant  tn ta te : Nat) (sv ov : Value) (r : Ref) (hs : s.size ≤ 1048576) (hq : q ≤ s.size) (hlen : st.length + out.length ≤ q) (_k2 : quant ≤ 5) (_k3 : made ≤ 65536) (k4 : opnOf st ≤ 64) (HK5 : Hid (okSt st)) (HK6 : Hid (∀ w ∈ st, w.op ≤ 100))
  (HTK : Hid (TokOk s.data.toList q ⟨7, tn, ta, te⟩)) (HRK : Hid (r.tk = some (w1.heap.size, #[.int .i64 (7 : Int), .int .i64 (tn : Int), .int .i64 (ta : Int), .int .i64 (te : Int)]))) (M2 : Hid (MacR r W2 wf.heap.size wf.heap.size st out (opnOf st : Int) made sv ov)) (hm : made < 65536)
  (u2 u10 u11 u23 u24 u25 u26 u27 u28 u29 u30 u31 u32 u33 u34 u35 u36 u37 u38 u39 u40 u41 u42 u43 u44 u45 u46 u47 u48 u49 u50 u51 u52 u53 u54 u55 u56 u57 u58 u59 u60 u61 u62 u63 u64 u65 u66 u67 u68 u69 u70 u71 u72 u73 u74 u75 u76 u77 u78 u79 u80 u81 u82 u83 u84 u85 u86 u87 u88 u89 u90 u91 u92 u93 u94 u95 u96 u97 u98 u99 u100 u101 u102 u103 u104 u105 u106 u107 u108 u109 u110 u111 u112 u113 u114 u115 u116 u117 u118 u119 u120 u121 u122 u123 u124 u125 u126 u127 u128 u129 u130 u131 u132 u133 u134 u135 u136 u137 u138 u139 u140 u141 u142 u143 u144 u145 u146 u147 u148 u149 u150 u151 u152 u153 u154 u155 u156 u157 u158 u159 u160 u161 u162 u163 u164 u165 u166 u167 u168 u169 u170 u171 u172 u173 u174 u175 u176 u177 u178 u179 : Value) (K : Act → World → Prop) (Q : Exit → Act → World → Prop)
  (hK : ∀ (x5 x6 x9 x10 x23 x24 x25 x26 x27 x28 x29 x30 x31 x32 x33 x34 x35 x36 x37 x38 x39 x40 x41 x42 x43 x44 x45 x46 x47 x48 x49 x50 x51 x52 x53 x54 x55 x56 x57 x58 x59 x60 x61 x62 x63 x64 x65 x66 x67 x68 x69 x70 x71 x72 x73 x74 x75 x76 x77 x78 x79 x80 x81 x82 x83 x84 x85 x86 x87 x88 x89 x90 x91 x92 x93 x94 x95 x96 x97 x98 x99 x100 x101 x102 x103 x104 x105 x106 x107 x108 x109 x110 x111 x112 x113 x114 x115 x116 x117 x118 x119 x120 x121 x122 x123 x124 x125 x126 x127 x128 x129 x130 x131 x132 x133 x134 x135 x136 x137 x138 x139 x140 x141 x142 x143 x144 x145 x146 x147 x148 x149 x150 x151 x152 x153 x154 x155 x156 x157 x158 x159 x160 x161 x162 x163 x164 x165 x166 x167 x168 x169 x170 : Value) (wx : World), After ⟨st, out, made, 1, quant⟩ ⟨7, tn, ta, te⟩ r wf.heap.size wf.heap.size x5 x6 x9 wx → K { tmps := #[.string s, undef, u2, .pointer (some ⟨w.heap.size, 0, none⟩), .pointer (some ⟨wf.heap.size, 0, none⟩), x5, x6, .int .i64 (te : Int), .pointer (some ⟨w1.heap.size, 0, none⟩), x9, x10, u11, .string s, .int .i64 (s.size : Int), .bool (decide (1048576 < (s.size : Int))), undef, .agg #[.slice none 0 0, .slice none 0 0, .int .i64 0, .int .i64 0], .pointer (some ⟨wf.heap.size, 0, none⟩), .string s, .int .i64 (q : Int), .agg #[.int .i64 (7 : Int), .int .i64 (tn : Int), .int .i64 (ta : Int), .int .i64 (te : Int)], .pointer (some ⟨w1.heap.size, 3, none⟩), .int .i64 (te : Int), x23, x24, x25, x26, x27, x28, x29, x30, x31, x32, x33, x34, x35, x36, x37, x38, x39, x40, x41, x42, x43, x44, x45, x46, x47, x48, x49, x50, x51, x52, x53, x54, x55, x56, x57, x58, x59, x60, x61, x62, x63, x64, x65, x66, x67, x68, x69, x70, x71, x72, x73, x74, x75, x76, x77, x78, x79, x80, x81, x82, x83, x84, x85, x86, x87, x88, x89, x90, x91, x92, x93, x94, x95, x96, x97, x98, x99, x100, x101, x102, x103, x104, x105, x106, x107, x108, x109, x110, x111, x112, x113, x114, x115, x116, x117, x118, x119, x120, x121, x122, x123, x124, x125, x126, x127, x128, x129, x130, x131, x132, x133, x134, x135, x136, x137, x138, x139, x140, x141, x142, x143, x144, x145, x146, x147, x148, x149, x150, x151, x152, x153, x154, x155, x156, x157, x158, x159, x160, x161, x162, x163, x164, x165, x166, x167, x168, x169, x170, u171, u172, u173, u174, u175, u176, u177, u178, u179], defers := [] } wx) :
  Code.wp Tryz.prog (((Tryz.f7.body.bind (findBlk 2))).getD .skip) (Exit.then K Q) { tmps := #[.string s, undef, u2, .pointer (some ⟨w.heap.size, 0, none⟩), .pointer (some ⟨wf.heap.size, 0, none⟩), .int .i64 (1 : Int), .int .i64 (quant : Int), .int .i64 (te : Int), .pointer (some ⟨w1.heap.size, 0, none⟩), .int .i64 0, u10, u11, .string s, .int .i64 (s.size : Int), .bool (decide (1048576 < (s.size : Int))), undef, .agg #[.slice none 0 0, .slice none 0 0, .int .i64 0, .int .i64 0], .pointer (some ⟨wf.heap.size, 0, none⟩), .string s, .int .i64 (q : Int), .agg #[.int .i64 (7 : Int), .int .i64 (tn : Int), .int .i64 (ta : Int), .int .i64 (te : Int)], .pointer (some ⟨w1.heap.size, 3, none⟩), .int .i64 (te : Int), u23, u24, u25, u26, u27, u28, u29, u30, u31, u32, u33, u34, u35, u36, u37, u38, u39, u40, u41, u42, u43, u44, u45, u46, u47, u48, u49, u50, u51, u52, u53, u54, u55, u56, u57, u58, u59, u60, u61, u62, u63, u64, u65, u66, u67, u68, u69, u70, u71, u72, u73, u74, u75, u76, u77, u78, u79, u80, u81, u82, u83, u84, u85, u86, u87, u88, u89, u90, u91, u92, u93, u94, u95, u96, u97, u98, u99, u100, u101, u102, u103, u104, u105, u106, u107, u108, u109, u110, u111, u112, u113, u114, u115, u116, u117, u118, u119, u120, u121, u122, u123, u124, u125, u126, u127, u128, u129, u130, u131, u132, u133, u134, u135, u136, u137, u138, u139, u140, u141, u142, u143, u144, u145, u146, u147, u148, u149, u150, u151, u152, u153, u154, u155, u156, u157, u158, u159, u160, u161, u162, u163, u164, u165, u166, u167, u168, u169, u170, u171, u172, u173, u174, u175, u176, u177, u178, u179], defers := [] } W2 := by
 have HK := hid hK
 have c2 := fun j => cell_row M2.out.row j
 have f2 := fun j => unfrozen_row M2.out.row j
 have hb2 := M2.out.size
 have tr := M2.out.tok _ _ HRK.out
 have tc := fun j => cell_row tr j
 have htb := (Array.getElem?_eq_some_iff.1 tr).1
 have htn := HTK.out.num
 have hkd := HTK.out.kind
 dsimp only at htn hkd
 clear hK tr
 conv in (Option.getD _ _) => whnf
 have h10 := HTK.out.op rfl
 dsimp only at h10
 have HP := hid (operator_any M2.out tn (by omega) HK5.out HK6.out (by omega) k4 hm)
 have e5 : opnOf (⟨5, tn, 0⟩ :: (settleOps tn st out).1) = opnOf (settleOps tn st out).1 := by simp [opnOf]
 have HE5 := hid e5
 clear e5
 go_wp2_with (go_at_call 21; refine HP.out.mono ?_; rintro e w3 ⟨rfl, svx, ovx, m3⟩; have c3 := fun j => cell_row m3.row j; have f3 := fun j => unfrozen_row m3.row j; have hb3 := m3.size; have tr3 := m3.tok _ _ HRK.out; have tc3 := fun j => cell_row tr3 j; have ht3 := (Array.getElem?_eq_some_iff.1 tr3).1; have M3 := hid m3; clear m3 tr3)
 refine HK.out _ _ _ _ _ _ _ _ _ _ _ _ _ _ _ _ _ _ _ _ _ _ _ _ _ _ _ _ _ _ _ _ _ _ _ _ _ _ _ _ _ _ _ _ _ _ _ _ _ _ _ _ _ _ _ _ _ _ _ _ _ _ _ _ _ _ _ _ _ _ _ _ _ _ _ _ _ _ _ _ _ _ _ _ _ _ _ _ _ _ _ _ _ _ _ _ _ _ _ _ _ _ _ _ _ _ _ _ _ _ _ _ _ _ _ _ _ _ _ _ _ _ _ _ _ _ _ _ _ _ _ _ _ _ _ _ _ _ _ _ _ _ _ _ _ _ _ _ _ _ _ _ _ ?_
 exact .inr ⟨⟨⟨5, tn, 0⟩ :: (settleOps tn st out).1, (settleOps tn st out).2, made + 1, 0, quant⟩, rfl, by simp [stepP]; omega, rfl, rfl, _, _, by show MacR _ _ _ _ _ _ ((opnOf (⟨5, tn, 0⟩ :: (settleOps tn st out).1) : Nat) : Int) _ _ _; rw [HE5.out]; exact M3.out⟩

set_option maxHeartbeats 4000000 in
set_option maxRecDepth 100000 in
theorem sw1_close (s : ByteArray) (w wf w1 W2 : World) (q : Nat) (st : List Wt) (out : List Nd) (made  quant  tn ta te : Nat) (sv ov : Value) (r : Ref) (hs : s.size ≤ 1048576) (hq : q ≤ s.size) (hlen : st.length + out.length ≤ q) (_k2 : quant ≤ 5) (_k3 : made ≤ 65536) (k4 : opnOf st ≤ 64) (HK5 : Hid (okSt st)) (_HK6 : Hid (∀ w ∈ st, w.op ≤ 100))
  (HTK : Hid (TokOk s.data.toList q ⟨9, tn, ta, te⟩)) (HRK : Hid (r.tk = some (w1.heap.size, #[.int .i64 (9 : Int), .int .i64 (tn : Int), .int .i64 (ta : Int), .int .i64 (te : Int)]))) (M2 : Hid (MacR r W2 wf.heap.size wf.heap.size st out (opnOf st : Int) made sv ov)) 
  (u2 u10 u11 u23 u24 u25 u26 u27 u28 u29 u30 u31 u32 u33 u34 u35 u36 u37 u38 u39 u40 u41 u42 u43 u44 u45 u46 u47 u48 u49 u50 u51 u52 u53 u54 u55 u56 u57 u58 u59 u60 u61 u62 u63 u64 u65 u66 u67 u68 u69 u70 u71 u72 u73 u74 u75 u76 u77 u78 u79 u80 u81 u82 u83 u84 u85 u86 u87 u88 u89 u90 u91 u92 u93 u94 u95 u96 u97 u98 u99 u100 u101 u102 u103 u104 u105 u106 u107 u108 u109 u110 u111 u112 u113 u114 u115 u116 u117 u118 u119 u120 u121 u122 u123 u124 u125 u126 u127 u128 u129 u130 u131 u132 u133 u134 u135 u136 u137 u138 u139 u140 u141 u142 u143 u144 u145 u146 u147 u148 u149 u150 u151 u152 u153 u154 u155 u156 u157 u158 u159 u160 u161 u162 u163 u164 u165 u166 u167 u168 u169 u170 u171 u172 u173 u174 u175 u176 u177 u178 u179 : Value) (K : Act → World → Prop) (Q : Exit → Act → World → Prop)
  (hK : ∀ (x5 x6 x9 x10 x23 x24 x25 x26 x27 x28 x29 x30 x31 x32 x33 x34 x35 x36 x37 x38 x39 x40 x41 x42 x43 x44 x45 x46 x47 x48 x49 x50 x51 x52 x53 x54 x55 x56 x57 x58 x59 x60 x61 x62 x63 x64 x65 x66 x67 x68 x69 x70 x71 x72 x73 x74 x75 x76 x77 x78 x79 x80 x81 x82 x83 x84 x85 x86 x87 x88 x89 x90 x91 x92 x93 x94 x95 x96 x97 x98 x99 x100 x101 x102 x103 x104 x105 x106 x107 x108 x109 x110 x111 x112 x113 x114 x115 x116 x117 x118 x119 x120 x121 x122 x123 x124 x125 x126 x127 x128 x129 x130 x131 x132 x133 x134 x135 x136 x137 x138 x139 x140 x141 x142 x143 x144 x145 x146 x147 x148 x149 x150 x151 x152 x153 x154 x155 x156 x157 x158 x159 x160 x161 x162 x163 x164 x165 x166 x167 x168 x169 x170 : Value) (wx : World), After ⟨st, out, made, 1, quant⟩ ⟨9, tn, ta, te⟩ r wf.heap.size wf.heap.size x5 x6 x9 wx → K { tmps := #[.string s, undef, u2, .pointer (some ⟨w.heap.size, 0, none⟩), .pointer (some ⟨wf.heap.size, 0, none⟩), x5, x6, .int .i64 (te : Int), .pointer (some ⟨w1.heap.size, 0, none⟩), x9, x10, u11, .string s, .int .i64 (s.size : Int), .bool (decide (1048576 < (s.size : Int))), undef, .agg #[.slice none 0 0, .slice none 0 0, .int .i64 0, .int .i64 0], .pointer (some ⟨wf.heap.size, 0, none⟩), .string s, .int .i64 (q : Int), .agg #[.int .i64 (9 : Int), .int .i64 (tn : Int), .int .i64 (ta : Int), .int .i64 (te : Int)], .pointer (some ⟨w1.heap.size, 3, none⟩), .int .i64 (te : Int), x23, x24, x25, x26, x27, x28, x29, x30, x31, x32, x33, x34, x35, x36, x37, x38, x39, x40, x41, x42, x43, x44, x45, x46, x47, x48, x49, x50, x51, x52, x53, x54, x55, x56, x57, x58, x59, x60, x61, x62, x63, x64, x65, x66, x67, x68, x69, x70, x71, x72, x73, x74, x75, x76, x77, x78, x79, x80, x81, x82, x83, x84, x85, x86, x87, x88, x89, x90, x91, x92, x93, x94, x95, x96, x97, x98, x99, x100, x101, x102, x103, x104, x105, x106, x107, x108, x109, x110, x111, x112, x113, x114, x115, x116, x117, x118, x119, x120, x121, x122, x123, x124, x125, x126, x127, x128, x129, x130, x131, x132, x133, x134, x135, x136, x137, x138, x139, x140, x141, x142, x143, x144, x145, x146, x147, x148, x149, x150, x151, x152, x153, x154, x155, x156, x157, x158, x159, x160, x161, x162, x163, x164, x165, x166, x167, x168, x169, x170, u171, u172, u173, u174, u175, u176, u177, u178, u179], defers := [] } wx) :
  Code.wp Tryz.prog (((Tryz.f7.body.bind (findBlk 2))).getD .skip) (Exit.then K Q) { tmps := #[.string s, undef, u2, .pointer (some ⟨w.heap.size, 0, none⟩), .pointer (some ⟨wf.heap.size, 0, none⟩), .int .i64 (1 : Int), .int .i64 (quant : Int), .int .i64 (te : Int), .pointer (some ⟨w1.heap.size, 0, none⟩), .int .i64 0, u10, u11, .string s, .int .i64 (s.size : Int), .bool (decide (1048576 < (s.size : Int))), undef, .agg #[.slice none 0 0, .slice none 0 0, .int .i64 0, .int .i64 0], .pointer (some ⟨wf.heap.size, 0, none⟩), .string s, .int .i64 (q : Int), .agg #[.int .i64 (9 : Int), .int .i64 (tn : Int), .int .i64 (ta : Int), .int .i64 (te : Int)], .pointer (some ⟨w1.heap.size, 3, none⟩), .int .i64 (te : Int), u23, u24, u25, u26, u27, u28, u29, u30, u31, u32, u33, u34, u35, u36, u37, u38, u39, u40, u41, u42, u43, u44, u45, u46, u47, u48, u49, u50, u51, u52, u53, u54, u55, u56, u57, u58, u59, u60, u61, u62, u63, u64, u65, u66, u67, u68, u69, u70, u71, u72, u73, u74, u75, u76, u77, u78, u79, u80, u81, u82, u83, u84, u85, u86, u87, u88, u89, u90, u91, u92, u93, u94, u95, u96, u97, u98, u99, u100, u101, u102, u103, u104, u105, u106, u107, u108, u109, u110, u111, u112, u113, u114, u115, u116, u117, u118, u119, u120, u121, u122, u123, u124, u125, u126, u127, u128, u129, u130, u131, u132, u133, u134, u135, u136, u137, u138, u139, u140, u141, u142, u143, u144, u145, u146, u147, u148, u149, u150, u151, u152, u153, u154, u155, u156, u157, u158, u159, u160, u161, u162, u163, u164, u165, u166, u167, u168, u169, u170, u171, u172, u173, u174, u175, u176, u177, u178, u179], defers := [] } W2 := by
 have HK := hid hK
 have c2 := fun j => cell_row M2.out.row j
 have f2 := fun j => unfrozen_row M2.out.row j
 have hb2 := M2.out.size
 have tr := M2.out.tok _ _ HRK.out
 have tc := fun j => cell_row tr j
 have htb := (Array.getElem?_eq_some_iff.1 tr).1
 have htn := HTK.out.num
 have hkd := HTK.out.kind
 dsimp only at htn hkd
 clear hK tr
 conv in (Option.getD _ _) => whnf
 have HP := hid (closes_any M2.out HK5.out (by omega) k4)
 have hst : stepP ⟨st, out, made, 1, quant⟩ ⟨9, tn, ta, te⟩ = closesP ⟨st, out, made, 1, quant⟩ := by simp [stepP]
 unfold closesP at hst
 unfold Closed at HP
 dsimp only at hst
 have hin := fun x t o (e : settleIn st out = (x :: t, o)) => settleIn_top e
 generalize settleIn st out = pr at hst HP hin
 obtain ⟨ss, oo⟩ := pr
 cases ss with
 | nil =>
  dsimp only at hst HP
  have HST := hid hst
  clear hst
  go_wp2_with (go_at_call 22; refine HP.out.mono ?_; rintro e w3 ⟨rfl, sx, ox, kx, mx, svx, ovx, m3⟩; have c3 := fun j => cell_row m3.row j; have f3 := fun j => unfrozen_row m3.row j; have hb3 := m3.size; have tr3 := m3.tok _ _ HRK.out; have tc3 := fun j => cell_row tr3 j; have ht3 := (Array.getElem?_eq_some_iff.1 tr3).1; have M3 := hid m3; clear m3 tr3)
  refine HK.out _ _ _ _ _ _ _ _ _ _ _ _ _ _ _ _ _ _ _ _ _ _ _ _ _ _ _ _ _ _ _ _ _ _ _ _ _ _ _ _ _ _ _ _ _ _ _ _ _ _ _ _ _ _ _ _ _ _ _ _ _ _ _ _ _ _ _ _ _ _ _ _ _ _ _ _ _ _ _ _ _ _ _ _ _ _ _ _ _ _ _ _ _ _ _ _ _ _ _ _ _ _ _ _ _ _ _ _ _ _ _ _ _ _ _ _ _ _ _ _ _ _ _ _ _ _ _ _ _ _ _ _ _ _ _ _ _ _ _ _ _ _ _ _ _ _ _ _ _ _ _ _ _ ?_
  exact .inl ⟨131, by decide, rfl, HST.out, M3.out.asE⟩
 | cons x t =>
  dsimp only at hst HP
  by_cases h3 : x.kind = 3
  ·simp only [if_pos h3] at hst HP
   have HST := hid hst
   clear hst
   go_wp2_with (go_at_call 22; refine HP.out.mono ?_; rintro e w3 ⟨rfl, svx, ovx, m3⟩; have c3 := fun j => cell_row m3.row j; have f3 := fun j => unfrozen_row m3.row j; have hb3 := m3.size; have tr3 := m3.tok _ _ HRK.out; have tc3 := fun j => cell_row tr3 j; have ht3 := (Array.getElem?_eq_some_iff.1 tr3).1; have M3 := hid m3; clear m3 tr3)
   refine HK.out _ _ _ _ _ _ _ _ _ _ _ _ _ _ _ _ _ _ _ _ _ _ _ _ _ _ _ _ _ _ _ _ _ _ _ _ _ _ _ _ _ _ _ _ _ _ _ _ _ _ _ _ _ _ _ _ _ _ _ _ _ _ _ _ _ _ _ _ _ _ _ _ _ _ _ _ _ _ _ _ _ _ _ _ _ _ _ _ _ _ _ _ _ _ _ _ _ _ _ _ _ _ _ _ _ _ _ _ _ _ _ _ _ _ _ _ _ _ _ _ _ _ _ _ _ _ _ _ _ _ _ _ _ _ _ _ _ _ _ _ _ _ _ _ _ _ _ _ _ _ _ _ _ ?_
   exact .inr ⟨⟨t, oo, made, 1, quant⟩, rfl, HST.out, rfl, rfl, _, _, M3.out⟩
  ·simp only [if_neg h3] at hst HP
   have h4 : x.kind = 4 := by have := hin x t oo rfl; omega
   by_cases h2 : x.n = 2
   ·rw [if_pos ⟨h4, h2⟩] at hst
    simp only [if_pos h2] at HP
    have HST := hid hst
    clear hst
    go_wp2_with (go_at_call 22; refine HP.out.mono ?_; rintro e w3 ⟨rfl, svx, ovx, m3⟩; have c3 := fun j => cell_row m3.row j; have f3 := fun j => unfrozen_row m3.row j; have hb3 := m3.size; have tr3 := m3.tok _ _ HRK.out; have tc3 := fun j => cell_row tr3 j; have ht3 := (Array.getElem?_eq_some_iff.1 tr3).1; have M3 := hid m3; clear m3 tr3)
    refine HK.out _ _ _ _ _ _ _ _ _ _ _ _ _ _ _ _ _ _ _ _ _ _ _ _ _ _ _ _ _ _ _ _ _ _ _ _ _ _ _ _ _ _ _ _ _ _ _ _ _ _ _ _ _ _ _ _ _ _ _ _ _ _ _ _ _ _ _ _ _ _ _ _ _ _ _ _ _ _ _ _ _ _ _ _ _ _ _ _ _ _ _ _ _ _ _ _ _ _ _ _ _ _ _ _ _ _ _ _ _ _ _ _ _ _ _ _ _ _ _ _ _ _ _ _ _ _ _ _ _ _ _ _ _ _ _ _ _ _ _ _ _ _ _ _ _ _ _ _ _ _ _ _ _ ?_
    exact .inr ⟨⟨t, oo ++ [nodeOf x], made, 1, quant⟩, rfl, HST.out, rfl, rfl, _, _, M3.out⟩
   ·rw [if_neg (fun h => h2 h.2)] at hst
    simp only [if_neg h2] at HP
    have HST := hid hst
    clear hst
    go_wp2_with (go_at_call 22; refine HP.out.mono ?_; rintro e w3 ⟨rfl, sx, ox, kx, mx, svx, ovx, m3⟩; have c3 := fun j => cell_row m3.row j; have f3 := fun j => unfrozen_row m3.row j; have hb3 := m3.size; have tr3 := m3.tok _ _ HRK.out; have tc3 := fun j => cell_row tr3 j; have ht3 := (Array.getElem?_eq_some_iff.1 tr3).1; have M3 := hid m3; clear m3 tr3)
    refine HK.out _ _ _ _ _ _ _ _ _ _ _ _ _ _ _ _ _ _ _ _ _ _ _ _ _ _ _ _ _ _ _ _ _ _ _ _ _ _ _ _ _ _ _ _ _ _ _ _ _ _ _ _ _ _ _ _ _ _ _ _ _ _ _ _ _ _ _ _ _ _ _ _ _ _ _ _ _ _ _ _ _ _ _ _ _ _ _ _ _ _ _ _ _ _ _ _ _ _ _ _ _ _ _ _ _ _ _ _ _ _ _ _ _ _ _ _ _ _ _ _ _ _ _ _ _ _ _ _ _ _ _ _ _ _ _ _ _ _ _ _ _ _ _ _ _ _ _ _ _ _ _ _ _ ?_
    exact .inl ⟨131, by decide, rfl, HST.out, M3.out.asE⟩

set_option maxHeartbeats 4000000 in
set_option maxRecDepth 100000 in
theorem sw1_comma (s : ByteArray) (w wf w1 W2 : World) (q : Nat) (st : List Wt) (out : List Nd) (made  quant  tn ta te : Nat) (sv ov : Value) (r : Ref) (hs : s.size ≤ 1048576) (hq : q ≤ s.size) (hlen : st.length + out.length ≤ q) (_k2 : quant ≤ 5) (_k3 : made ≤ 65536) (k4 : opnOf st ≤ 64) (HK5 : Hid (okSt st)) (_HK6 : Hid (∀ w ∈ st, w.op ≤ 100))
  (HTK : Hid (TokOk s.data.toList q ⟨10, tn, ta, te⟩)) (HRK : Hid (r.tk = some (w1.heap.size, #[.int .i64 (10 : Int), .int .i64 (tn : Int), .int .i64 (ta : Int), .int .i64 (te : Int)]))) (M2 : Hid (MacR r W2 wf.heap.size wf.heap.size st out (opnOf st : Int) made sv ov)) 
  (u2 u10 u11 u23 u24 u25 u26 u27 u28 u29 u30 u31 u32 u33 u34 u35 u36 u37 u38 u39 u40 u41 u42 u43 u44 u45 u46 u47 u48 u49 u50 u51 u52 u53 u54 u55 u56 u57 u58 u59 u60 u61 u62 u63 u64 u65 u66 u67 u68 u69 u70 u71 u72 u73 u74 u75 u76 u77 u78 u79 u80 u81 u82 u83 u84 u85 u86 u87 u88 u89 u90 u91 u92 u93 u94 u95 u96 u97 u98 u99 u100 u101 u102 u103 u104 u105 u106 u107 u108 u109 u110 u111 u112 u113 u114 u115 u116 u117 u118 u119 u120 u121 u122 u123 u124 u125 u126 u127 u128 u129 u130 u131 u132 u133 u134 u135 u136 u137 u138 u139 u140 u141 u142 u143 u144 u145 u146 u147 u148 u149 u150 u151 u152 u153 u154 u155 u156 u157 u158 u159 u160 u161 u162 u163 u164 u165 u166 u167 u168 u169 u170 u171 u172 u173 u174 u175 u176 u177 u178 u179 : Value) (K : Act → World → Prop) (Q : Exit → Act → World → Prop)
  (hK : ∀ (x5 x6 x9 x10 x23 x24 x25 x26 x27 x28 x29 x30 x31 x32 x33 x34 x35 x36 x37 x38 x39 x40 x41 x42 x43 x44 x45 x46 x47 x48 x49 x50 x51 x52 x53 x54 x55 x56 x57 x58 x59 x60 x61 x62 x63 x64 x65 x66 x67 x68 x69 x70 x71 x72 x73 x74 x75 x76 x77 x78 x79 x80 x81 x82 x83 x84 x85 x86 x87 x88 x89 x90 x91 x92 x93 x94 x95 x96 x97 x98 x99 x100 x101 x102 x103 x104 x105 x106 x107 x108 x109 x110 x111 x112 x113 x114 x115 x116 x117 x118 x119 x120 x121 x122 x123 x124 x125 x126 x127 x128 x129 x130 x131 x132 x133 x134 x135 x136 x137 x138 x139 x140 x141 x142 x143 x144 x145 x146 x147 x148 x149 x150 x151 x152 x153 x154 x155 x156 x157 x158 x159 x160 x161 x162 x163 x164 x165 x166 x167 x168 x169 x170 : Value) (wx : World), After ⟨st, out, made, 1, quant⟩ ⟨10, tn, ta, te⟩ r wf.heap.size wf.heap.size x5 x6 x9 wx → K { tmps := #[.string s, undef, u2, .pointer (some ⟨w.heap.size, 0, none⟩), .pointer (some ⟨wf.heap.size, 0, none⟩), x5, x6, .int .i64 (te : Int), .pointer (some ⟨w1.heap.size, 0, none⟩), x9, x10, u11, .string s, .int .i64 (s.size : Int), .bool (decide (1048576 < (s.size : Int))), undef, .agg #[.slice none 0 0, .slice none 0 0, .int .i64 0, .int .i64 0], .pointer (some ⟨wf.heap.size, 0, none⟩), .string s, .int .i64 (q : Int), .agg #[.int .i64 (10 : Int), .int .i64 (tn : Int), .int .i64 (ta : Int), .int .i64 (te : Int)], .pointer (some ⟨w1.heap.size, 3, none⟩), .int .i64 (te : Int), x23, x24, x25, x26, x27, x28, x29, x30, x31, x32, x33, x34, x35, x36, x37, x38, x39, x40, x41, x42, x43, x44, x45, x46, x47, x48, x49, x50, x51, x52, x53, x54, x55, x56, x57, x58, x59, x60, x61, x62, x63, x64, x65, x66, x67, x68, x69, x70, x71, x72, x73, x74, x75, x76, x77, x78, x79, x80, x81, x82, x83, x84, x85, x86, x87, x88, x89, x90, x91, x92, x93, x94, x95, x96, x97, x98, x99, x100, x101, x102, x103, x104, x105, x106, x107, x108, x109, x110, x111, x112, x113, x114, x115, x116, x117, x118, x119, x120, x121, x122, x123, x124, x125, x126, x127, x128, x129, x130, x131, x132, x133, x134, x135, x136, x137, x138, x139, x140, x141, x142, x143, x144, x145, x146, x147, x148, x149, x150, x151, x152, x153, x154, x155, x156, x157, x158, x159, x160, x161, x162, x163, x164, x165, x166, x167, x168, x169, x170, u171, u172, u173, u174, u175, u176, u177, u178, u179], defers := [] } wx) :
  Code.wp Tryz.prog (((Tryz.f7.body.bind (findBlk 2))).getD .skip) (Exit.then K Q) { tmps := #[.string s, undef, u2, .pointer (some ⟨w.heap.size, 0, none⟩), .pointer (some ⟨wf.heap.size, 0, none⟩), .int .i64 (1 : Int), .int .i64 (quant : Int), .int .i64 (te : Int), .pointer (some ⟨w1.heap.size, 0, none⟩), .int .i64 0, u10, u11, .string s, .int .i64 (s.size : Int), .bool (decide (1048576 < (s.size : Int))), undef, .agg #[.slice none 0 0, .slice none 0 0, .int .i64 0, .int .i64 0], .pointer (some ⟨wf.heap.size, 0, none⟩), .string s, .int .i64 (q : Int), .agg #[.int .i64 (10 : Int), .int .i64 (tn : Int), .int .i64 (ta : Int), .int .i64 (te : Int)], .pointer (some ⟨w1.heap.size, 3, none⟩), .int .i64 (te : Int), u23, u24, u25, u26, u27, u28, u29, u30, u31, u32, u33, u34, u35, u36, u37, u38, u39, u40, u41, u42, u43, u44, u45, u46, u47, u48, u49, u50, u51, u52, u53, u54, u55, u56, u57, u58, u59, u60, u61, u62, u63, u64, u65, u66, u67, u68, u69, u70, u71, u72, u73, u74, u75, u76, u77, u78, u79, u80, u81, u82, u83, u84, u85, u86, u87, u88, u89, u90, u91, u92, u93, u94, u95, u96, u97, u98, u99, u100, u101, u102, u103, u104, u105, u106, u107, u108, u109, u110, u111, u112, u113, u114, u115, u116, u117, u118, u119, u120, u121, u122, u123, u124, u125, u126, u127, u128, u129, u130, u131, u132, u133, u134, u135, u136, u137, u138, u139, u140, u141, u142, u143, u144, u145, u146, u147, u148, u149, u150, u151, u152, u153, u154, u155, u156, u157, u158, u159, u160, u161, u162, u163, u164, u165, u166, u167, u168, u169, u170, u171, u172, u173, u174, u175, u176, u177, u178, u179], defers := [] } W2 := by
 have HK := hid hK
 have c2 := fun j => cell_row M2.out.row j
 have f2 := fun j => unfrozen_row M2.out.row j
 have hb2 := M2.out.size
 have tr := M2.out.tok _ _ HRK.out
 have tc := fun j => cell_row tr j
 have htb := (Array.getElem?_eq_some_iff.1 tr).1
 have htn := HTK.out.num
 have hkd := HTK.out.kind
 dsimp only at htn hkd
 clear hK tr
 conv in (Option.getD _ _) => whnf
 have HP := hid (comma_any M2.out HK5.out (by omega) k4)
 have hst : stepP ⟨st, out, made, 1, quant⟩ ⟨10, tn, ta, te⟩ = commaP ⟨st, out, made, 1, quant⟩ := by simp [stepP]
 unfold commaP at hst
 unfold Commaed at HP
 dsimp only at hst
 generalize settleIn st out = pr at hst HP
 obtain ⟨ss, oo⟩ := pr
 cases ss with
 | nil =>
  dsimp only at hst HP
  have HST := hid hst
  clear hst
  go_wp2_with (go_at_call 23; refine HP.out.mono ?_; rintro e w3 ⟨rfl, sx, ox, kx, mx, svx, ovx, m3⟩; have c3 := fun j => cell_row m3.row j; have f3 := fun j => unfrozen_row m3.row j; have hb3 := m3.size; have tr3 := m3.tok _ _ HRK.out; have tc3 := fun j => cell_row tr3 j; have ht3 := (Array.getElem?_eq_some_iff.1 tr3).1; have M3 := hid m3; clear m3 tr3)
  refine HK.out _ _ _ _ _ _ _ _ _ _ _ _ _ _ _ _ _ _ _ _ _ _ _ _ _ _ _ _ _ _ _ _ _ _ _ _ _ _ _ _ _ _ _ _ _ _ _ _ _ _ _ _ _ _ _ _ _ _ _ _ _ _ _ _ _ _ _ _ _ _ _ _ _ _ _ _ _ _ _ _ _ _ _ _ _ _ _ _ _ _ _ _ _ _ _ _ _ _ _ _ _ _ _ _ _ _ _ _ _ _ _ _ _ _ _ _ _ _ _ _ _ _ _ _ _ _ _ _ _ _ _ _ _ _ _ _ _ _ _ _ _ _ _ _ _ _ _ _ _ _ _ _ _ ?_
  exact .inl ⟨131, by decide, rfl, HST.out, M3.out.asE⟩
 | cons x t =>
  dsimp only at hst HP
  by_cases h3 : x.kind = 4 ∧ x.n < 2
  ·simp only [if_pos h3] at hst HP
   have HST := hid hst
   have HOP : Hid (opnOf (⟨x.kind, x.op, x.n + 1⟩ :: t) = opnOf (x :: t)) := by show _ = _; simp only [opnOf, List.countP_cons]
   clear hst
   go_wp2_with (go_at_call 23; refine HP.out.mono ?_; rintro e w3 ⟨rfl, svx, ovx, m3⟩; have c3 := fun j => cell_row m3.row j; have f3 := fun j => unfrozen_row m3.row j; have hb3 := m3.size; have tr3 := m3.tok _ _ HRK.out; have tc3 := fun j => cell_row tr3 j; have ht3 := (Array.getElem?_eq_some_iff.1 tr3).1; have M3 := hid m3; clear m3 tr3)
   refine HK.out _ _ _ _ _ _ _ _ _ _ _ _ _ _ _ _ _ _ _ _ _ _ _ _ _ _ _ _ _ _ _ _ _ _ _ _ _ _ _ _ _ _ _ _ _ _ _ _ _ _ _ _ _ _ _ _ _ _ _ _ _ _ _ _ _ _ _ _ _ _ _ _ _ _ _ _ _ _ _ _ _ _ _ _ _ _ _ _ _ _ _ _ _ _ _ _ _ _ _ _ _ _ _ _ _ _ _ _ _ _ _ _ _ _ _ _ _ _ _ _ _ _ _ _ _ _ _ _ _ _ _ _ _ _ _ _ _ _ _ _ _ _ _ _ _ _ _ _ _ _ _ _ _ ?_
   exact .inr ⟨⟨⟨x.kind, x.op, x.n + 1⟩ :: t, oo, made, 0, quant⟩, rfl, HST.out, rfl, rfl, _, _, by show MacR _ _ _ _ _ _ ((opnOf (⟨x.kind, x.op, x.n + 1⟩ :: t) : Nat) : Int) _ _ _; rw [HOP.out]; exact M3.out⟩
  ·simp only [if_neg h3] at hst HP
   have HST := hid hst
   clear hst
   go_wp2_with (go_at_call 23; refine HP.out.mono ?_; rintro e w3 ⟨rfl, sx, ox, kx, mx, svx, ovx, m3⟩; have c3 := fun j => cell_row m3.row j; have f3 := fun j => unfrozen_row m3.row j; have hb3 := m3.size; have tr3 := m3.tok _ _ HRK.out; have tc3 := fun j => cell_row tr3 j; have ht3 := (Array.getElem?_eq_some_iff.1 tr3).1; have M3 := hid m3; clear m3 tr3)
   refine HK.out _ _ _ _ _ _ _ _ _ _ _ _ _ _ _ _ _ _ _ _ _ _ _ _ _ _ _ _ _ _ _ _ _ _ _ _ _ _ _ _ _ _ _ _ _ _ _ _ _ _ _ _ _ _ _ _ _ _ _ _ _ _ _ _ _ _ _ _ _ _ _ _ _ _ _ _ _ _ _ _ _ _ _ _ _ _ _ _ _ _ _ _ _ _ _ _ _ _ _ _ _ _ _ _ _ _ _ _ _ _ _ _ _ _ _ _ _ _ _ _ _ _ _ _ _ _ _ _ _ _ _ _ _ _ _ _ _ _ _ _ _ _ _ _ _ _ _ _ _ _ _ _ _ ?_
   exact .inl ⟨131, by decide, rfl, HST.out, M3.out.asE⟩

set_option maxHeartbeats 4000000 in
set_option maxRecDepth 100000 in
theorem sw1_no (s : ByteArray) (w wf w1 W2 : World) (q : Nat) (st : List Wt) (out : List Nd) (made  quant kd tn ta te : Nat) (sv ov : Value) (r : Ref) (_hs : s.size ≤ 1048576) (_hq : q ≤ s.size) (_hlen : st.length + out.length ≤ q) (_k2 : quant ≤ 5) (_k3 : made ≤ 65536) (_k4 : opnOf st ≤ 64) (_HK5 : Hid (okSt st)) (_HK6 : Hid (∀ w ∈ st, w.op ≤ 100))
  (HTK : Hid (TokOk s.data.toList q ⟨kd, tn, ta, te⟩)) (HRK : Hid (r.tk = some (w1.heap.size, #[.int .i64 (kd : Int), .int .i64 (tn : Int), .int .i64 (ta : Int), .int .i64 (te : Int)]))) (M2 : Hid (MacR r W2 wf.heap.size wf.heap.size st out (opnOf st : Int) made sv ov)) (n0 : kd ≠ 0) (n1 : kd ≠ 1) (n7 : kd ≠ 7) (n9 : kd ≠ 9) (n10 : kd ≠ 10)
  (u2 u10 u11 u23 u24 u25 u26 u27 u28 u29 u30 u31 u32 u33 u34 u35 u36 u37 u38 u39 u40 u41 u42 u43 u44 u45 u46 u47 u48 u49 u50 u51 u52 u53 u54 u55 u56 u57 u58 u59 u60 u61 u62 u63 u64 u65 u66 u67 u68 u69 u70 u71 u72 u73 u74 u75 u76 u77 u78 u79 u80 u81 u82 u83 u84 u85 u86 u87 u88 u89 u90 u91 u92 u93 u94 u95 u96 u97 u98 u99 u100 u101 u102 u103 u104 u105 u106 u107 u108 u109 u110 u111 u112 u113 u114 u115 u116 u117 u118 u119 u120 u121 u122 u123 u124 u125 u126 u127 u128 u129 u130 u131 u132 u133 u134 u135 u136 u137 u138 u139 u140 u141 u142 u143 u144 u145 u146 u147 u148 u149 u150 u151 u152 u153 u154 u155 u156 u157 u158 u159 u160 u161 u162 u163 u164 u165 u166 u167 u168 u169 u170 u171 u172 u173 u174 u175 u176 u177 u178 u179 : Value) (K : Act → World → Prop) (Q : Exit → Act → World → Prop)
  (hK : ∀ (x5 x6 x9 x10 x23 x24 x25 x26 x27 x28 x29 x30 x31 x32 x33 x34 x35 x36 x37 x38 x39 x40 x41 x42 x43 x44 x45 x46 x47 x48 x49 x50 x51 x52 x53 x54 x55 x56 x57 x58 x59 x60 x61 x62 x63 x64 x65 x66 x67 x68 x69 x70 x71 x72 x73 x74 x75 x76 x77 x78 x79 x80 x81 x82 x83 x84 x85 x86 x87 x88 x89 x90 x91 x92 x93 x94 x95 x96 x97 x98 x99 x100 x101 x102 x103 x104 x105 x106 x107 x108 x109 x110 x111 x112 x113 x114 x115 x116 x117 x118 x119 x120 x121 x122 x123 x124 x125 x126 x127 x128 x129 x130 x131 x132 x133 x134 x135 x136 x137 x138 x139 x140 x141 x142 x143 x144 x145 x146 x147 x148 x149 x150 x151 x152 x153 x154 x155 x156 x157 x158 x159 x160 x161 x162 x163 x164 x165 x166 x167 x168 x169 x170 : Value) (wx : World), After ⟨st, out, made, 1, quant⟩ ⟨kd, tn, ta, te⟩ r wf.heap.size wf.heap.size x5 x6 x9 wx → K { tmps := #[.string s, undef, u2, .pointer (some ⟨w.heap.size, 0, none⟩), .pointer (some ⟨wf.heap.size, 0, none⟩), x5, x6, .int .i64 (te : Int), .pointer (some ⟨w1.heap.size, 0, none⟩), x9, x10, u11, .string s, .int .i64 (s.size : Int), .bool (decide (1048576 < (s.size : Int))), undef, .agg #[.slice none 0 0, .slice none 0 0, .int .i64 0, .int .i64 0], .pointer (some ⟨wf.heap.size, 0, none⟩), .string s, .int .i64 (q : Int), .agg #[.int .i64 (kd : Int), .int .i64 (tn : Int), .int .i64 (ta : Int), .int .i64 (te : Int)], .pointer (some ⟨w1.heap.size, 3, none⟩), .int .i64 (te : Int), x23, x24, x25, x26, x27, x28, x29, x30, x31, x32, x33, x34, x35, x36, x37, x38, x39, x40, x41, x42, x43, x44, x45, x46, x47, x48, x49, x50, x51, x52, x53, x54, x55, x56, x57, x58, x59, x60, x61, x62, x63, x64, x65, x66, x67, x68, x69, x70, x71, x72, x73, x74, x75, x76, x77, x78, x79, x80, x81, x82, x83, x84, x85, x86, x87, x88, x89, x90, x91, x92, x93, x94, x95, x96, x97, x98, x99, x100, x101, x102, x103, x104, x105, x106, x107, x108, x109, x110, x111, x112, x113, x114, x115, x116, x117, x118, x119, x120, x121, x122, x123, x124, x125, x126, x127, x128, x129, x130, x131, x132, x133, x134, x135, x136, x137, x138, x139, x140, x141, x142, x143, x144, x145, x146, x147, x148, x149, x150, x151, x152, x153, x154, x155, x156, x157, x158, x159, x160, x161, x162, x163, x164, x165, x166, x167, x168, x169, x170, u171, u172, u173, u174, u175, u176, u177, u178, u179], defers := [] } wx) :
  Code.wp Tryz.prog (((Tryz.f7.body.bind (findBlk 2))).getD .skip) (Exit.then K Q) { tmps := #[.string s, undef, u2, .pointer (some ⟨w.heap.size, 0, none⟩), .pointer (some ⟨wf.heap.size, 0, none⟩), .int .i64 (1 : Int), .int .i64 (quant : Int), .int .i64 (te : Int), .pointer (some ⟨w1.heap.size, 0, none⟩), .int .i64 0, u10, u11, .string s, .int .i64 (s.size : Int), .bool (decide (1048576 < (s.size : Int))), undef, .agg #[.slice none 0 0, .slice none 0 0, .int .i64 0, .int .i64 0], .pointer (some ⟨wf.heap.size, 0, none⟩), .string s, .int .i64 (q : Int), .agg #[.int .i64 (kd : Int), .int .i64 (tn : Int), .int .i64 (ta : Int), .int .i64 (te : Int)], .pointer (some ⟨w1.heap.size, 3, none⟩), .int .i64 (te : Int), u23, u24, u25, u26, u27, u28, u29, u30, u31, u32, u33, u34, u35, u36, u37, u38, u39, u40, u41, u42, u43, u44, u45, u46, u47, u48, u49, u50, u51, u52, u53, u54, u55, u56, u57, u58, u59, u60, u61, u62, u63, u64, u65, u66, u67, u68, u69, u70, u71, u72, u73, u74, u75, u76, u77, u78, u79, u80, u81, u82, u83, u84, u85, u86, u87, u88, u89, u90, u91, u92, u93, u94, u95, u96, u97, u98, u99, u100, u101, u102, u103, u104, u105, u106, u107, u108, u109, u110, u111, u112, u113, u114, u115, u116, u117, u118, u119, u120, u121, u122, u123, u124, u125, u126, u127, u128, u129, u130, u131, u132, u133, u134, u135, u136, u137, u138, u139, u140, u141, u142, u143, u144, u145, u146, u147, u148, u149, u150, u151, u152, u153, u154, u155, u156, u157, u158, u159, u160, u161, u162, u163, u164, u165, u166, u167, u168, u169, u170, u171, u172, u173, u174, u175, u176, u177, u178, u179], defers := [] } W2 := by
 have HK := hid hK
 have c2 := fun j => cell_row M2.out.row j
 have f2 := fun j => unfrozen_row M2.out.row j
 have hb2 := M2.out.size
 have tr := M2.out.tok _ _ HRK.out
 have tc := fun j => cell_row tr j
 have htb := (Array.getElem?_eq_some_iff.1 tr).1
 have htn := HTK.out.num
 have hkd := HTK.out.kind
 dsimp only at htn hkd
 clear hK tr
 conv in (Option.getD _ _) => whnf
 have nb1 : ((kd : Int) == 1) = false := by rw [beq_eq_false_iff_ne]; omega
 have nb7 : ((kd : Int) == 7) = false := by rw [beq_eq_false_iff_ne]; omega
 have nb9 : ((kd : Int) == 9) = false := by rw [beq_eq_false_iff_ne]; omega
 have nb10 : ((kd : Int) == 10) = false := by rw [beq_eq_false_iff_ne]; omega
 have nb0 : ((kd : Int) == 0) = false := by rw [beq_eq_false_iff_ne]; omega
 have HST : Hid (stepP ⟨st, out, made, 1, quant⟩ ⟨kd, tn, ta, te⟩ = .error 131) := by show _ = _; simp [stepP, n0, n1, n7, n9, n10]
 go_wp2
 refine HK.out _ _ _ _ _ _ _ _ _ _ _ _ _ _ _ _ _ _ _ _ _ _ _ _ _ _ _ _ _ _ _ _ _ _ _ _ _ _ _ _ _ _ _ _ _ _ _ _ _ _ _ _ _ _ _ _ _ _ _ _ _ _ _ _ _ _ _ _ _ _ _ _ _ _ _ _ _ _ _ _ _ _ _ _ _ _ _ _ _ _ _ _ _ _ _ _ _ _ _ _ _ _ _ _ _ _ _ _ _ _ _ _ _ _ _ _ _ _ _ _ _ _ _ _ _ _ _ _ _ _ _ _ _ _ _ _ _ _ _ _ _ _ _ _ _ _ _ _ _ _ _ _ _ ?_
 exact .inl ⟨131, by decide, rfl, HST.out, M2.out.asE⟩
end Go.Proofs.YtdkboifpdodonacGreatDoor.Ref
