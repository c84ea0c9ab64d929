import Derived.Test.YtdkboifpdodonacGreatDoorZ22
set_option linter.unusedSimpArgs false
/-
 The document's own Parse.
-/
namespace Go.Proofs.YtdkboifpdodonacGreatDoor.Ref
open Go.RowKit Go.Deep PureCnf PureForm
set_option maxRecDepth 100000

/-- a fault, as a value. -/
def faultF (l : List UInt8) (f : Nat × Option Nat) : Value := match f.2 with
 | none => .agg #[.int .i64 (f.1 : Int), .int .i64 0, .int .i64 0]
 | some p => .agg #[.int .i64 (f.1 : Int), .int .i64 ((spotN (l.take p)).1 : Int), .int .i64 ((spotN (l.take p)).2 : Int)]
/-- what reading a formula answers. -/
def ParsedF (l : List UInt8) (base : Nat) (e : Ending) (w' : World) : Prop := match parseF l with
 | .error f => e = .returned (.tuple #[.slice none 0 0, faultF l f])
 | .ok o => ∃ v, e = .returned (.tuple #[v, .agg #[.int .i64 0, .int .i64 0, .int .i64 0]]) ∧ w'.ownsRow base 44 2 v o.length (nds o)
theorem ParsedF.err {l : List UInt8} {base : Nat} {e : Ending} {w' : World} {f : Nat × Option Nat} (h : parseF l = .error f) (he : e = .returned (.tuple #[.slice none 0 0, faultF l f])) : ParsedF l base e w' := by
 unfold ParsedF; rw [h]; exact he
theorem ParsedF.ok {l : List UInt8} {base : Nat} {e : Ending} {w' : World} {o : List Nd} {v : Value} (h : parseF l = .ok o) (he : e = .returned (.tuple #[v, .agg #[.int .i64 0, .int .i64 0, .int .i64 0]])) (ho : w'.ownsRow base 44 2 v o.length (nds o)) : ParsedF l base e w' := by
 unfold ParsedF; rw [h]; exact ⟨v, he, ho⟩

set_option maxHeartbeats 1000000 in
set_option maxRecDepth 100000 in
theorem parse_long (s : ByteArray) (w : World) (hs : s.size ≤ 9223372036854775807) (hl : 1048576 < s.size) :
  Calls Tryz.prog 7 #[.string s] w fun e w' => ParsedF s.data.toList w.heap.size e w' ∧ Below w.heap.size w w' := by
 have HP : Hid (parseF s.data.toList = .error (5, none)) := parseF_long (by simpa using hl)
 go_enter Tryz.func7, Tryz.ntmps7
 go_wp2
 rw [show s.size = s.data.toList.length by simp] at hl
 exact bodyPost_ret (v := .tuple #[.slice none 0 0, .agg #[.int .i64 5, .int .i64 0, .int .i64 0]]) (by simp [results, Tryz.results7, go_sem]) rfl ⟨ParsedF.err HP.out rfl, (Below.refl _ _).alloc (Nat.le_refl _) _⟩

theorem ownsRow_base {W : World} {B B' e size n : Nat} {v : Value} {xs : List Value} (h : W.ownsRow B e size v n xs) (hb : B' ≤ B) : W.ownsRow B' e size v n xs := by
 refine ⟨h.1, ?_⟩
 rcases h.2 with hn | ⟨g, cap, cur, hv, hB, rest⟩
 ·exact .inl hn
 ·exact .inr ⟨g, cap, cur, hv, Nat.le_trans hb hB, rest⟩
theorem own_three {W : World} {B b n : Nat} {v : Value} {xs : List Value} {cs : Array Value} (h : W.ownsRow B 44 2 v n xs) (hr : W.heap[b]? = some (.cells cs 28 (0, 0))) (x y z : Value) :
  (((W.setCell ⟨b, 0, none⟩ x).setCell ⟨b, 1, none⟩ y).setCell ⟨b, 2, none⟩ z).ownsRow B 44 2 v n xs :=
 ownsRow_store (ownsRow_store (ownsRow_store h hr (by decide)) (row_set hr) (by decide)) (row_set (row_set hr)) (by decide)
theorem below_drew {B : Nat} {w W : World} (h : Below B w W) : Below B w W.drew := h.drew
theorem SignsAt.far {w W : World} {g o c : Nat} (h : SignsAt w g o c) (hb : Below w.heap.size w W) : SignsAt W g o c := h.below hb

set_option maxHeartbeats 4000000 in
set_option maxRecDepth 100000 in
theorem parse_short (s : ByteArray) (w : World) (g o c : Nat) (hsg : SignsAt w g o c) (hs : s.size ≤ 1048576) :
  Calls Tryz.prog 7 #[.string s] w fun e w' => ParsedF s.data.toList w.heap.size e w' ∧ Below w.heap.size w w' := by
 have HL : Hid (s.data.toList.length = s.size) := by show _ = _; simp
 have HSG := hid hsg
 clear hsg
 obtain ⟨wf, hwf⟩ : ∃ wf, wf = w.alloc (Obj.cells #[.int .i64 0, .int .i64 0, .int .i64 0] 28) := ⟨_, rfl⟩
 have hwb : Below w.heap.size w wf := by rw [hwf]; exact (Below.refl _ _).alloc (Nat.le_refl _) _
 have hwr : wf.heap[w.heap.size]? = some (Obj.cells #[.int .i64 0, .int .i64 0, .int .i64 0] 28) := by rw [hwf]; exact heap_alloc_new w _
 have hws : wf.heap.size = w.heap.size + 1 := by rw [hwf]; simp
 have M0 : Hid (MacR ⟨wf, none⟩ (wf.alloc (Obj.cells #[.slice none 0 0, .slice none 0 0, .int .i64 0, .int .i64 0] 55)) wf.heap.size wf.heap.size [] [] 0 0 (.slice none 0 0) (.slice none 0 0)) :=
  ⟨heap_alloc_new wf _, World.ownsRow_nil _ _ _ _, World.ownsRow_nil _ _ _ _, Nat.le_refl _, (Below.refl _ _).alloc (Nat.le_refl _) _, fun tb cs e => by cases e⟩
 have HWF := hid hwf
 have HWB := hid hwb
 have HWR := hid hwr
 have HWS := hid hws
 clear hwf hwb hwr hws
 go_enter Tryz.func7, Tryz.ntmps7
 go_wp2
 rw [← HWF.out, ← HWS.out]
 go_loopw [5, 6, 7] (fun wv qv iv W => ∃ (q : Nat) (st : List Wt) (out : List Nd) (made want quant : Nat) (sv ov : Value), q ≤ s.size ∧ iv = .int .i64 (q : Int) ∧ wv = .int .i64 (want : Int) ∧ qv = .int .i64 (quant : Int) ∧ st.length + out.length ≤ q ∧
  Hid (runP ⟨st, out, made, want, quant⟩ (toksFrom s.data.toList q) = runP ⟨[], [], 0, 0, 0⟩ (toksFrom s.data.toList 0) ∧ PSok ⟨st, out, made, want, quant⟩ ∧ MacR ⟨wf, none⟩ W wf.heap.size wf.heap.size st out (opnOf st : Int) made sv ov)) (fun _ _ iv _ => s.size - (intOf iv).toNat)
 case atStart => exact ⟨0, [], [], 0, 0, 0, _, _, Nat.zero_le _, rfl, rfl, rfl, Nat.le_refl _, rfl, ⟨by simp, by simp, by simp, by simp [opnOf], (fun w hw => by cases hw), (fun w hw => by cases hw)⟩, M0.out⟩
 case round =>
  obtain ⟨q, st, out, made, want, quant, sv, ov, hq, rfl, rfl, rfl, hlen, HR⟩ := hrel
  obtain ⟨hrun, hok, hmac⟩ := HR.out
  have HRUN := hid hrun
  have HOK := hid hok
  obtain ⟨k1, k2, k3, k4, k5, k6⟩ := hok
  dsimp only at k1 k2 k3 k4 k5 k6
  have HK5 := hid k5
  have HK6 := hid k6
  have HNX := hid (next_any s q wr g o c (HSG.out.far (HWB.out.trans (hmac.below.mono HWB.out.size))) hs hq)
  have HTK := hid (next_ok s.data.toList q)
  have HRE := hid (fun e => run_err (l := s.data.toList) (q := q) (s := ⟨st, out, made, want, quant⟩) (e := e))
  have HRU := hid hrun
  have HRD := hid (fun o => run_done (l := s.data.toList) (q := q) (s := ⟨st, out, made, want, quant⟩) (o := o))
  have HRO := hid (fun p' => run_on (l := s.data.toList) (q := q) (s := ⟨st, out, made, want, quant⟩) (s' := p'))
  have MW := hid hmac
  clear HR hrun hmac M0 k5 k6
  generalize nextT s.data.toList q = t at *
  obtain ⟨kd, tn, ta, te⟩ := t
  simp only [tokV] at HNX
  dsimp only at HRE HRD HRO
  go_wp2_with fail
  refine HNX.out.mono ?_
  rintro e w1 ⟨rfl, b1⟩
  have m1 := MW.out.on b1
  have m2 := (m1.alloc (Obj.cells #[.int .i64 (kd : Int), .int .i64 (tn : Int), .int .i64 (ta : Int), .int .i64 (te : Int)] 57)).retok (heap_alloc_new w1 _)
  obtain ⟨W2, hW2⟩ : ∃ W2, W2 = w1.alloc (Obj.cells #[.int .i64 (kd : Int), .int .i64 (tn : Int), .int .i64 (ta : Int), .int .i64 (te : Int)] 57) := ⟨_, rfl⟩
  rw [← hW2] at m2
  have M2 := hid m2
  have c2 := fun j => cell_row m2.row j
  have f2 := fun j => unfrozen_row m2.row j
  have hb2 := m2.size
  have tr := m2.tok _ _ rfl
  have tc := fun j => cell_row tr j
  have htb := (Array.getElem?_eq_some_iff.1 tr).1
  have HW2 := hid hW2
  clear m1 m2 b1 hW2 tr MW HNX
  obtain ⟨r, hr⟩ : ∃ r : Ref, r = ⟨wf, some (w1.heap.size, #[.int .i64 (kd : Int), .int .i64 (tn : Int), .int .i64 (ta : Int), .int .i64 (te : Int)])⟩ := ⟨_, rfl⟩
  rw [← hr] at M2
  have HRR := hid hr
  clear hr
  go_upto_block 2 with (rw [← HW2.out])
  go_cut [5, 6, 9] (fun wv qv ev wx => Hid (After ⟨st, out, made, want, quant⟩ ⟨kd, tn, ta, te⟩ r wf.heap.size wf.heap.size wv qv ev wx))
  case first =>
   have HRK : Hid (r.tk = some (w1.heap.size, #[.int .i64 (kd : Int), .int .i64 (tn : Int), .int .i64 (ta : Int), .int .i64 (te : Int)])) := by show _ = _; rw [HRR.out]
   have HRW : Hid (r.w = wf) := by show _ = _; rw [HRR.out]
   clear HRE HRO HW2 HRUN HRR c2 f2 hb2 tc htb
   show Code.wp Tryz.prog (((Tryz.f7.body.bind (findBlk 2))).getD .skip) _ _ _
   by_cases n1 : kd = 1
   ·subst n1
    refine sw_bad s w wf w1 W2 q st out made want quant tn ta te sv ov r hs hq hlen k2 k3 k4 HK5 HK6 HTK HRK M2  _ _ _ _ _ _ _ _ _ _ _ _ _ _ _ _ _ _ _ _ _ _ _ _ _ _ _ _ _ _ _ _ _ _ _ _ _ _ _ _ _ _ _ _ _ _ _ _ _ _ _ _ _ _ _ _ _ _ _ _ _ _ _ _ _ _ _ _ _ _ _ _ _ _ _ _ _ _ _ _ _ _ _ _ _ _ _ _ _ _ _ _ _ _ _ _ _ _ _ _ _ _ _ _ _ _ _ _ _ _ _ _ _ _ _ _ _ _ _ _ _ _ _ _ _ _ _ _ _ _ _ _ _ _ _ _ _ _ _ _ _ _ _ _ _ _ _ _ _ _ _ _ _ _ _ _ _ _ _ _ _ _ ?_
    intro x5 x6 x9 x10 x23 x24 x25 x26 x27 x28 x29 x30 x31 x32 x33 x34 x35 x36 x37 x38 x39 x40 x41 x42 x43 x44 x45 x46 x47 x48 x49 x50 x51 x52 x53 x54 x55 x56 x57 x58 x59 x60 x61 x62 x63 x64 x65 x66 x67 x68 x69 x70 x71 x72 x73 x74 x75 x76 x77 x78 x79 x80 x81 x82 x83 x84 x85 x86 x87 x88 x89 x90 x91 x92 x93 x94 x95 x96 x97 x98 x99 x100 x101 x102 x103 x104 x105 x106 x107 x108 x109 x110 x111 x112 x113 x114 x115 x116 x117 x118 x119 x120 x121 x122 x123 x124 x125 x126 x127 x128 x129 x130 x131 x132 x133 x134 x135 x136 x137 x138 x139 x140 x141 x142 x143 x144 x145 x146 x147 x148 x149 x150 x151 x152 x153 x154 x155 x156 x157 x158 x159 x160 x161 x162 x163 x164 x165 x166 x167 x168 x169 x170 wx h
    dsimp only
    go_step
    go_meet
    exact h
   ·have hw : want = 0 ∨ want = 1 ∨ want = 2 ∨ want = 3 ∨ want = 4 := by omega
    clear k1
    rcases hw with rfl | rfl | rfl | rfl | rfl
    ·by_cases n2 : kd = 2
     ·subst n2
      by_cases hm : made < 65536
      ·refine sw0_node2 s w wf w1 W2 q st out made quant tn ta te sv ov r hs hq hlen k2 k3 k4 HK5 HK6 HTK HRK M2 hm _ _ _ _ _ _ _ _ _ _ _ _ _ _ _ _ _ _ _ _ _ _ _ _ _ _ _ _ _ _ _ _ _ _ _ _ _ _ _ _ _ _ _ _ _ _ _ _ _ _ _ _ _ _ _ _ _ _ _ _ _ _ _ _ _ _ _ _ _ _ _ _ _ _ _ _ _ _ _ _ _ _ _ _ _ _ _ _ _ _ _ _ _ _ _ _ _ _ _ _ _ _ _ _ _ _ _ _ _ _ _ _ _ _ _ _ _ _ _ _ _ _ _ _ _ _ _ _ _ _ _ _ _ _ _ _ _ _ _ _ _ _ _ _ _ _ _ _ _ _ _ _ _ _ _ _ _ _ _ _ _ _ ?_
       intro x5 x6 x9 x10 x23 x24 x25 x26 x27 x28 x29 x30 x31 x32 x33 x34 x35 x36 x37 x38 x39 x40 x41 x42 x43 x44 x45 x46 x47 x48 x49 x50 x51 x52 x53 x54 x55 x56 x57 x58 x59 x60 x61 x62 x63 x64 x65 x66 x67 x68 x69 x70 x71 x72 x73 x74 x75 x76 x77 x78 x79 x80 x81 x82 x83 x84 x85 x86 x87 x88 x89 x90 x91 x92 x93 x94 x95 x96 x97 x98 x99 x100 x101 x102 x103 x104 x105 x106 x107 x108 x109 x110 x111 x112 x113 x114 x115 x116 x117 x118 x119 x120 x121 x122 x123 x124 x125 x126 x127 x128 x129 x130 x131 x132 x133 x134 x135 x136 x137 x138 x139 x140 x141 x142 x143 x144 x145 x146 x147 x148 x149 x150 x151 x152 x153 x154 x155 x156 x157 x158 x159 x160 x161 x162 x163 x164 x165 x166 x167 x168 x169 x170 wx h
       dsimp only
       go_step
       go_meet
       exact h
      ·refine sw0_many2 s w wf w1 W2 q st out made quant tn ta te sv ov r hs hq hlen k2 k3 k4 HK5 HK6 HTK HRK M2 (by omega) _ _ _ _ _ _ _ _ _ _ _ _ _ _ _ _ _ _ _ _ _ _ _ _ _ _ _ _ _ _ _ _ _ _ _ _ _ _ _ _ _ _ _ _ _ _ _ _ _ _ _ _ _ _ _ _ _ _ _ _ _ _ _ _ _ _ _ _ _ _ _ _ _ _ _ _ _ _ _ _ _ _ _ _ _ _ _ _ _ _ _ _ _ _ _ _ _ _ _ _ _ _ _ _ _ _ _ _ _ _ _ _ _ _ _ _ _ _ _ _ _ _ _ _ _ _ _ _ _ _ _ _ _ _ _ _ _ _ _ _ _ _ _ _ _ _ _ _ _ _ _ _ _ _ _ _ _ _ _ _ _ _ ?_
       intro x5 x6 x9 x10 x23 x24 x25 x26 x27 x28 x29 x30 x31 x32 x33 x34 x35 x36 x37 x38 x39 x40 x41 x42 x43 x44 x45 x46 x47 x48 x49 x50 x51 x52 x53 x54 x55 x56 x57 x58 x59 x60 x61 x62 x63 x64 x65 x66 x67 x68 x69 x70 x71 x72 x73 x74 x75 x76 x77 x78 x79 x80 x81 x82 x83 x84 x85 x86 x87 x88 x89 x90 x91 x92 x93 x94 x95 x96 x97 x98 x99 x100 x101 x102 x103 x104 x105 x106 x107 x108 x109 x110 x111 x112 x113 x114 x115 x116 x117 x118 x119 x120 x121 x122 x123 x124 x125 x126 x127 x128 x129 x130 x131 x132 x133 x134 x135 x136 x137 x138 x139 x140 x141 x142 x143 x144 x145 x146 x147 x148 x149 x150 x151 x152 x153 x154 x155 x156 x157 x158 x159 x160 x161 x162 x163 x164 x165 x166 x167 x168 x169 x170 wx h
       dsimp only
       go_step
       go_meet
       exact h
     ·by_cases n3 : kd = 3
      ·subst n3
       by_cases hm : made < 65536
       ·refine sw0_node3 s w wf w1 W2 q st out made quant tn ta te sv ov r hs hq hlen k2 k3 k4 HK5 HK6 HTK HRK M2 hm _ _ _ _ _ _ _ _ _ _ _ _ _ _ _ _ _ _ _ _ _ _ _ _ _ _ _ _ _ _ _ _ _ _ _ _ _ _ _ _ _ _ _ _ _ _ _ _ _ _ _ _ _ _ _ _ _ _ _ _ _ _ _ _ _ _ _ _ _ _ _ _ _ _ _ _ _ _ _ _ _ _ _ _ _ _ _ _ _ _ _ _ _ _ _ _ _ _ _ _ _ _ _ _ _ _ _ _ _ _ _ _ _ _ _ _ _ _ _ _ _ _ _ _ _ _ _ _ _ _ _ _ _ _ _ _ _ _ _ _ _ _ _ _ _ _ _ _ _ _ _ _ _ _ _ _ _ _ _ _ _ _ ?_
        intro x5 x6 x9 x10 x23 x24 x25 x26 x27 x28 x29 x30 x31 x32 x33 x34 x35 x36 x37 x38 x39 x40 x41 x42 x43 x44 x45 x46 x47 x48 x49 x50 x51 x52 x53 x54 x55 x56 x57 x58 x59 x60 x61 x62 x63 x64 x65 x66 x67 x68 x69 x70 x71 x72 x73 x74 x75 x76 x77 x78 x79 x80 x81 x82 x83 x84 x85 x86 x87 x88 x89 x90 x91 x92 x93 x94 x95 x96 x97 x98 x99 x100 x101 x102 x103 x104 x105 x106 x107 x108 x109 x110 x111 x112 x113 x114 x115 x116 x117 x118 x119 x120 x121 x122 x123 x124 x125 x126 x127 x128 x129 x130 x131 x132 x133 x134 x135 x136 x137 x138 x139 x140 x141 x142 x143 x144 x145 x146 x147 x148 x149 x150 x151 x152 x153 x154 x155 x156 x157 x158 x159 x160 x161 x162 x163 x164 x165 x166 x167 x168 x169 x170 wx h
        dsimp only
        go_step
        go_meet
        exact h
       ·refine sw0_many3 s w wf w1 W2 q st out made quant tn ta te sv ov r hs hq hlen k2 k3 k4 HK5 HK6 HTK HRK M2 (by omega) _ _ _ _ _ _ _ _ _ _ _ _ _ _ _ _ _ _ _ _ _ _ _ _ _ _ _ _ _ _ _ _ _ _ _ _ _ _ _ _ _ _ _ _ _ _ _ _ _ _ _ _ _ _ _ _ _ _ _ _ _ _ _ _ _ _ _ _ _ _ _ _ _ _ _ _ _ _ _ _ _ _ _ _ _ _ _ _ _ _ _ _ _ _ _ _ _ _ _ _ _ _ _ _ _ _ _ _ _ _ _ _ _ _ _ _ _ _ _ _ _ _ _ _ _ _ _ _ _ _ _ _ _ _ _ _ _ _ _ _ _ _ _ _ _ _ _ _ _ _ _ _ _ _ _ _ _ _ _ _ _ _ ?_
        intro x5 x6 x9 x10 x23 x24 x25 x26 x27 x28 x29 x30 x31 x32 x33 x34 x35 x36 x37 x38 x39 x40 x41 x42 x43 x44 x45 x46 x47 x48 x49 x50 x51 x52 x53 x54 x55 x56 x57 x58 x59 x60 x61 x62 x63 x64 x65 x66 x67 x68 x69 x70 x71 x72 x73 x74 x75 x76 x77 x78 x79 x80 x81 x82 x83 x84 x85 x86 x87 x88 x89 x90 x91 x92 x93 x94 x95 x96 x97 x98 x99 x100 x101 x102 x103 x104 x105 x106 x107 x108 x109 x110 x111 x112 x113 x114 x115 x116 x117 x118 x119 x120 x121 x122 x123 x124 x125 x126 x127 x128 x129 x130 x131 x132 x133 x134 x135 x136 x137 x138 x139 x140 x141 x142 x143 x144 x145 x146 x147 x148 x149 x150 x151 x152 x153 x154 x155 x156 x157 x158 x159 x160 x161 x162 x163 x164 x165 x166 x167 x168 x169 x170 wx h
        dsimp only
        go_step
        go_meet
        exact h
      ·by_cases n5 : kd = 5
       ·subst n5
        refine sw0_quant s w wf w1 W2 q st out made quant tn ta te sv ov r hs hq hlen k2 k3 k4 HK5 HK6 HTK HRK M2  _ _ _ _ _ _ _ _ _ _ _ _ _ _ _ _ _ _ _ _ _ _ _ _ _ _ _ _ _ _ _ _ _ _ _ _ _ _ _ _ _ _ _ _ _ _ _ _ _ _ _ _ _ _ _ _ _ _ _ _ _ _ _ _ _ _ _ _ _ _ _ _ _ _ _ _ _ _ _ _ _ _ _ _ _ _ _ _ _ _ _ _ _ _ _ _ _ _ _ _ _ _ _ _ _ _ _ _ _ _ _ _ _ _ _ _ _ _ _ _ _ _ _ _ _ _ _ _ _ _ _ _ _ _ _ _ _ _ _ _ _ _ _ _ _ _ _ _ _ _ _ _ _ _ _ _ _ _ _ _ _ _ ?_
        intro x5 x6 x9 x10 x23 x24 x25 x26 x27 x28 x29 x30 x31 x32 x33 x34 x35 x36 x37 x38 x39 x40 x41 x42 x43 x44 x45 x46 x47 x48 x49 x50 x51 x52 x53 x54 x55 x56 x57 x58 x59 x60 x61 x62 x63 x64 x65 x66 x67 x68 x69 x70 x71 x72 x73 x74 x75 x76 x77 x78 x79 x80 x81 x82 x83 x84 x85 x86 x87 x88 x89 x90 x91 x92 x93 x94 x95 x96 x97 x98 x99 x100 x101 x102 x103 x104 x105 x106 x107 x108 x109 x110 x111 x112 x113 x114 x115 x116 x117 x118 x119 x120 x121 x122 x123 x124 x125 x126 x127 x128 x129 x130 x131 x132 x133 x134 x135 x136 x137 x138 x139 x140 x141 x142 x143 x144 x145 x146 x147 x148 x149 x150 x151 x152 x153 x154 x155 x156 x157 x158 x159 x160 x161 x162 x163 x164 x165 x166 x167 x168 x169 x170 wx h
        dsimp only
        go_step
        go_meet
        exact h
       ·by_cases n8 : kd = 8
        ·subst n8
         by_cases hdp : 64 ≤ opnOf st
         ·refine sw0_deep8 s w wf w1 W2 q st out made quant tn ta te sv ov r hs hq hlen k2 k3 k4 HK5 HK6 HTK HRK M2 hdp _ _ _ _ _ _ _ _ _ _ _ _ _ _ _ _ _ _ _ _ _ _ _ _ _ _ _ _ _ _ _ _ _ _ _ _ _ _ _ _ _ _ _ _ _ _ _ _ _ _ _ _ _ _ _ _ _ _ _ _ _ _ _ _ _ _ _ _ _ _ _ _ _ _ _ _ _ _ _ _ _ _ _ _ _ _ _ _ _ _ _ _ _ _ _ _ _ _ _ _ _ _ _ _ _ _ _ _ _ _ _ _ _ _ _ _ _ _ _ _ _ _ _ _ _ _ _ _ _ _ _ _ _ _ _ _ _ _ _ _ _ _ _ _ _ _ _ _ _ _ _ _ _ _ _ _ _ _ _ _ _ _ ?_
          intro x5 x6 x9 x10 x23 x24 x25 x26 x27 x28 x29 x30 x31 x32 x33 x34 x35 x36 x37 x38 x39 x40 x41 x42 x43 x44 x45 x46 x47 x48 x49 x50 x51 x52 x53 x54 x55 x56 x57 x58 x59 x60 x61 x62 x63 x64 x65 x66 x67 x68 x69 x70 x71 x72 x73 x74 x75 x76 x77 x78 x79 x80 x81 x82 x83 x84 x85 x86 x87 x88 x89 x90 x91 x92 x93 x94 x95 x96 x97 x98 x99 x100 x101 x102 x103 x104 x105 x106 x107 x108 x109 x110 x111 x112 x113 x114 x115 x116 x117 x118 x119 x120 x121 x122 x123 x124 x125 x126 x127 x128 x129 x130 x131 x132 x133 x134 x135 x136 x137 x138 x139 x140 x141 x142 x143 x144 x145 x146 x147 x148 x149 x150 x151 x152 x153 x154 x155 x156 x157 x158 x159 x160 x161 x162 x163 x164 x165 x166 x167 x168 x169 x170 wx h
          dsimp only
          go_step
          go_meet
          exact h
         ·refine sw0_open s w wf w1 W2 q st out made quant tn ta te sv ov r hs hq hlen k2 k3 k4 HK5 HK6 HTK HRK M2 hdp _ _ _ _ _ _ _ _ _ _ _ _ _ _ _ _ _ _ _ _ _ _ _ _ _ _ _ _ _ _ _ _ _ _ _ _ _ _ _ _ _ _ _ _ _ _ _ _ _ _ _ _ _ _ _ _ _ _ _ _ _ _ _ _ _ _ _ _ _ _ _ _ _ _ _ _ _ _ _ _ _ _ _ _ _ _ _ _ _ _ _ _ _ _ _ _ _ _ _ _ _ _ _ _ _ _ _ _ _ _ _ _ _ _ _ _ _ _ _ _ _ _ _ _ _ _ _ _ _ _ _ _ _ _ _ _ _ _ _ _ _ _ _ _ _ _ _ _ _ _ _ _ _ _ _ _ _ _ _ _ _ _ ?_
          intro x5 x6 x9 x10 x23 x24 x25 x26 x27 x28 x29 x30 x31 x32 x33 x34 x35 x36 x37 x38 x39 x40 x41 x42 x43 x44 x45 x46 x47 x48 x49 x50 x51 x52 x53 x54 x55 x56 x57 x58 x59 x60 x61 x62 x63 x64 x65 x66 x67 x68 x69 x70 x71 x72 x73 x74 x75 x76 x77 x78 x79 x80 x81 x82 x83 x84 x85 x86 x87 x88 x89 x90 x91 x92 x93 x94 x95 x96 x97 x98 x99 x100 x101 x102 x103 x104 x105 x106 x107 x108 x109 x110 x111 x112 x113 x114 x115 x116 x117 x118 x119 x120 x121 x122 x123 x124 x125 x126 x127 x128 x129 x130 x131 x132 x133 x134 x135 x136 x137 x138 x139 x140 x141 x142 x143 x144 x145 x146 x147 x148 x149 x150 x151 x152 x153 x154 x155 x156 x157 x158 x159 x160 x161 x162 x163 x164 x165 x166 x167 x168 x169 x170 wx h
          dsimp only
          go_step
          go_meet
          exact h
        ·by_cases n6 : kd = 6
         ·subst n6
          by_cases hdp : 64 ≤ opnOf st
          ·refine sw0_deep6 s w wf w1 W2 q st out made quant tn ta te sv ov r hs hq hlen k2 k3 k4 HK5 HK6 HTK HRK M2 hdp _ _ _ _ _ _ _ _ _ _ _ _ _ _ _ _ _ _ _ _ _ _ _ _ _ _ _ _ _ _ _ _ _ _ _ _ _ _ _ _ _ _ _ _ _ _ _ _ _ _ _ _ _ _ _ _ _ _ _ _ _ _ _ _ _ _ _ _ _ _ _ _ _ _ _ _ _ _ _ _ _ _ _ _ _ _ _ _ _ _ _ _ _ _ _ _ _ _ _ _ _ _ _ _ _ _ _ _ _ _ _ _ _ _ _ _ _ _ _ _ _ _ _ _ _ _ _ _ _ _ _ _ _ _ _ _ _ _ _ _ _ _ _ _ _ _ _ _ _ _ _ _ _ _ _ _ _ _ _ _ _ _ ?_
           intro x5 x6 x9 x10 x23 x24 x25 x26 x27 x28 x29 x30 x31 x32 x33 x34 x35 x36 x37 x38 x39 x40 x41 x42 x43 x44 x45 x46 x47 x48 x49 x50 x51 x52 x53 x54 x55 x56 x57 x58 x59 x60 x61 x62 x63 x64 x65 x66 x67 x68 x69 x70 x71 x72 x73 x74 x75 x76 x77 x78 x79 x80 x81 x82 x83 x84 x85 x86 x87 x88 x89 x90 x91 x92 x93 x94 x95 x96 x97 x98 x99 x100 x101 x102 x103 x104 x105 x106 x107 x108 x109 x110 x111 x112 x113 x114 x115 x116 x117 x118 x119 x120 x121 x122 x123 x124 x125 x126 x127 x128 x129 x130 x131 x132 x133 x134 x135 x136 x137 x138 x139 x140 x141 x142 x143 x144 x145 x146 x147 x148 x149 x150 x151 x152 x153 x154 x155 x156 x157 x158 x159 x160 x161 x162 x163 x164 x165 x166 x167 x168 x169 x170 wx h
           dsimp only
           go_step
           go_meet
           exact h
          ·by_cases hm : made < 65536
           ·refine sw0_make6 s w wf w1 W2 q st out made quant tn ta te sv ov r hs hq hlen k2 k3 k4 HK5 HK6 HTK HRK M2 hdp hm _ _ _ _ _ _ _ _ _ _ _ _ _ _ _ _ _ _ _ _ _ _ _ _ _ _ _ _ _ _ _ _ _ _ _ _ _ _ _ _ _ _ _ _ _ _ _ _ _ _ _ _ _ _ _ _ _ _ _ _ _ _ _ _ _ _ _ _ _ _ _ _ _ _ _ _ _ _ _ _ _ _ _ _ _ _ _ _ _ _ _ _ _ _ _ _ _ _ _ _ _ _ _ _ _ _ _ _ _ _ _ _ _ _ _ _ _ _ _ _ _ _ _ _ _ _ _ _ _ _ _ _ _ _ _ _ _ _ _ _ _ _ _ _ _ _ _ _ _ _ _ _ _ _ _ _ _ _ _ _ _ _ ?_
            intro x5 x6 x9 x10 x23 x24 x25 x26 x27 x28 x29 x30 x31 x32 x33 x34 x35 x36 x37 x38 x39 x40 x41 x42 x43 x44 x45 x46 x47 x48 x49 x50 x51 x52 x53 x54 x55 x56 x57 x58 x59 x60 x61 x62 x63 x64 x65 x66 x67 x68 x69 x70 x71 x72 x73 x74 x75 x76 x77 x78 x79 x80 x81 x82 x83 x84 x85 x86 x87 x88 x89 x90 x91 x92 x93 x94 x95 x96 x97 x98 x99 x100 x101 x102 x103 x104 x105 x106 x107 x108 x109 x110 x111 x112 x113 x114 x115 x116 x117 x118 x119 x120 x121 x122 x123 x124 x125 x126 x127 x128 x129 x130 x131 x132 x133 x134 x135 x136 x137 x138 x139 x140 x141 x142 x143 x144 x145 x146 x147 x148 x149 x150 x151 x152 x153 x154 x155 x156 x157 x158 x159 x160 x161 x162 x163 x164 x165 x166 x167 x168 x169 x170 wx h
            dsimp only
            go_step
            go_meet
            exact h
           ·refine sw0_over6 s w wf w1 W2 q st out made quant tn ta te sv ov r hs hq hlen k2 k3 k4 HK5 HK6 HTK HRK M2 hdp (by omega) _ _ _ _ _ _ _ _ _ _ _ _ _ _ _ _ _ _ _ _ _ _ _ _ _ _ _ _ _ _ _ _ _ _ _ _ _ _ _ _ _ _ _ _ _ _ _ _ _ _ _ _ _ _ _ _ _ _ _ _ _ _ _ _ _ _ _ _ _ _ _ _ _ _ _ _ _ _ _ _ _ _ _ _ _ _ _ _ _ _ _ _ _ _ _ _ _ _ _ _ _ _ _ _ _ _ _ _ _ _ _ _ _ _ _ _ _ _ _ _ _ _ _ _ _ _ _ _ _ _ _ _ _ _ _ _ _ _ _ _ _ _ _ _ _ _ _ _ _ _ _ _ _ _ _ _ _ _ _ _ _ _ ?_
            intro x5 x6 x9 x10 x23 x24 x25 x26 x27 x28 x29 x30 x31 x32 x33 x34 x35 x36 x37 x38 x39 x40 x41 x42 x43 x44 x45 x46 x47 x48 x49 x50 x51 x52 x53 x54 x55 x56 x57 x58 x59 x60 x61 x62 x63 x64 x65 x66 x67 x68 x69 x70 x71 x72 x73 x74 x75 x76 x77 x78 x79 x80 x81 x82 x83 x84 x85 x86 x87 x88 x89 x90 x91 x92 x93 x94 x95 x96 x97 x98 x99 x100 x101 x102 x103 x104 x105 x106 x107 x108 x109 x110 x111 x112 x113 x114 x115 x116 x117 x118 x119 x120 x121 x122 x123 x124 x125 x126 x127 x128 x129 x130 x131 x132 x133 x134 x135 x136 x137 x138 x139 x140 x141 x142 x143 x144 x145 x146 x147 x148 x149 x150 x151 x152 x153 x154 x155 x156 x157 x158 x159 x160 x161 x162 x163 x164 x165 x166 x167 x168 x169 x170 wx h
            dsimp only
            go_step
            go_meet
            exact h
         ·by_cases n4 : kd = 4
          ·subst n4
           by_cases hdp : 64 ≤ opnOf st
           ·refine sw0_deep4 s w wf w1 W2 q st out made quant tn ta te sv ov r hs hq hlen k2 k3 k4 HK5 HK6 HTK HRK M2 hdp _ _ _ _ _ _ _ _ _ _ _ _ _ _ _ _ _ _ _ _ _ _ _ _ _ _ _ _ _ _ _ _ _ _ _ _ _ _ _ _ _ _ _ _ _ _ _ _ _ _ _ _ _ _ _ _ _ _ _ _ _ _ _ _ _ _ _ _ _ _ _ _ _ _ _ _ _ _ _ _ _ _ _ _ _ _ _ _ _ _ _ _ _ _ _ _ _ _ _ _ _ _ _ _ _ _ _ _ _ _ _ _ _ _ _ _ _ _ _ _ _ _ _ _ _ _ _ _ _ _ _ _ _ _ _ _ _ _ _ _ _ _ _ _ _ _ _ _ _ _ _ _ _ _ _ _ _ _ _ _ _ _ ?_
            intro x5 x6 x9 x10 x23 x24 x25 x26 x27 x28 x29 x30 x31 x32 x33 x34 x35 x36 x37 x38 x39 x40 x41 x42 x43 x44 x45 x46 x47 x48 x49 x50 x51 x52 x53 x54 x55 x56 x57 x58 x59 x60 x61 x62 x63 x64 x65 x66 x67 x68 x69 x70 x71 x72 x73 x74 x75 x76 x77 x78 x79 x80 x81 x82 x83 x84 x85 x86 x87 x88 x89 x90 x91 x92 x93 x94 x95 x96 x97 x98 x99 x100 x101 x102 x103 x104 x105 x106 x107 x108 x109 x110 x111 x112 x113 x114 x115 x116 x117 x118 x119 x120 x121 x122 x123 x124 x125 x126 x127 x128 x129 x130 x131 x132 x133 x134 x135 x136 x137 x138 x139 x140 x141 x142 x143 x144 x145 x146 x147 x148 x149 x150 x151 x152 x153 x154 x155 x156 x157 x158 x159 x160 x161 x162 x163 x164 x165 x166 x167 x168 x169 x170 wx h
            dsimp only
            go_step
            go_meet
            exact h
           ·by_cases hm : made < 65536
            ·refine sw0_make4 s w wf w1 W2 q st out made quant tn ta te sv ov r hs hq hlen k2 k3 k4 HK5 HK6 HTK HRK M2 hdp hm _ _ _ _ _ _ _ _ _ _ _ _ _ _ _ _ _ _ _ _ _ _ _ _ _ _ _ _ _ _ _ _ _ _ _ _ _ _ _ _ _ _ _ _ _ _ _ _ _ _ _ _ _ _ _ _ _ _ _ _ _ _ _ _ _ _ _ _ _ _ _ _ _ _ _ _ _ _ _ _ _ _ _ _ _ _ _ _ _ _ _ _ _ _ _ _ _ _ _ _ _ _ _ _ _ _ _ _ _ _ _ _ _ _ _ _ _ _ _ _ _ _ _ _ _ _ _ _ _ _ _ _ _ _ _ _ _ _ _ _ _ _ _ _ _ _ _ _ _ _ _ _ _ _ _ _ _ _ _ _ _ _ ?_
             intro x5 x6 x9 x10 x23 x24 x25 x26 x27 x28 x29 x30 x31 x32 x33 x34 x35 x36 x37 x38 x39 x40 x41 x42 x43 x44 x45 x46 x47 x48 x49 x50 x51 x52 x53 x54 x55 x56 x57 x58 x59 x60 x61 x62 x63 x64 x65 x66 x67 x68 x69 x70 x71 x72 x73 x74 x75 x76 x77 x78 x79 x80 x81 x82 x83 x84 x85 x86 x87 x88 x89 x90 x91 x92 x93 x94 x95 x96 x97 x98 x99 x100 x101 x102 x103 x104 x105 x106 x107 x108 x109 x110 x111 x112 x113 x114 x115 x116 x117 x118 x119 x120 x121 x122 x123 x124 x125 x126 x127 x128 x129 x130 x131 x132 x133 x134 x135 x136 x137 x138 x139 x140 x141 x142 x143 x144 x145 x146 x147 x148 x149 x150 x151 x152 x153 x154 x155 x156 x157 x158 x159 x160 x161 x162 x163 x164 x165 x166 x167 x168 x169 x170 wx h
             dsimp only
             go_step
             go_meet
             exact h
            ·refine sw0_over4 s w wf w1 W2 q st out made quant tn ta te sv ov r hs hq hlen k2 k3 k4 HK5 HK6 HTK HRK M2 hdp (by omega) _ _ _ _ _ _ _ _ _ _ _ _ _ _ _ _ _ _ _ _ _ _ _ _ _ _ _ _ _ _ _ _ _ _ _ _ _ _ _ _ _ _ _ _ _ _ _ _ _ _ _ _ _ _ _ _ _ _ _ _ _ _ _ _ _ _ _ _ _ _ _ _ _ _ _ _ _ _ _ _ _ _ _ _ _ _ _ _ _ _ _ _ _ _ _ _ _ _ _ _ _ _ _ _ _ _ _ _ _ _ _ _ _ _ _ _ _ _ _ _ _ _ _ _ _ _ _ _ _ _ _ _ _ _ _ _ _ _ _ _ _ _ _ _ _ _ _ _ _ _ _ _ _ _ _ _ _ _ _ _ _ _ ?_
             intro x5 x6 x9 x10 x23 x24 x25 x26 x27 x28 x29 x30 x31 x32 x33 x34 x35 x36 x37 x38 x39 x40 x41 x42 x43 x44 x45 x46 x47 x48 x49 x50 x51 x52 x53 x54 x55 x56 x57 x58 x59 x60 x61 x62 x63 x64 x65 x66 x67 x68 x69 x70 x71 x72 x73 x74 x75 x76 x77 x78 x79 x80 x81 x82 x83 x84 x85 x86 x87 x88 x89 x90 x91 x92 x93 x94 x95 x96 x97 x98 x99 x100 x101 x102 x103 x104 x105 x106 x107 x108 x109 x110 x111 x112 x113 x114 x115 x116 x117 x118 x119 x120 x121 x122 x123 x124 x125 x126 x127 x128 x129 x130 x131 x132 x133 x134 x135 x136 x137 x138 x139 x140 x141 x142 x143 x144 x145 x146 x147 x148 x149 x150 x151 x152 x153 x154 x155 x156 x157 x158 x159 x160 x161 x162 x163 x164 x165 x166 x167 x168 x169 x170 wx h
             dsimp only
             go_step
             go_meet
             exact h
          ·refine sw0_no s w wf w1 W2 q st out made quant kd tn ta te sv ov r hs hq hlen k2 k3 k4 HK5 HK6 HTK HRK M2 n1 n2 n3 n4 n5 n6 n8 _ _ _ _ _ _ _ _ _ _ _ _ _ _ _ _ _ _ _ _ _ _ _ _ _ _ _ _ _ _ _ _ _ _ _ _ _ _ _ _ _ _ _ _ _ _ _ _ _ _ _ _ _ _ _ _ _ _ _ _ _ _ _ _ _ _ _ _ _ _ _ _ _ _ _ _ _ _ _ _ _ _ _ _ _ _ _ _ _ _ _ _ _ _ _ _ _ _ _ _ _ _ _ _ _ _ _ _ _ _ _ _ _ _ _ _ _ _ _ _ _ _ _ _ _ _ _ _ _ _ _ _ _ _ _ _ _ _ _ _ _ _ _ _ _ _ _ _ _ _ _ _ _ _ _ _ _ _ _ _ _ _ ?_
           intro x5 x6 x9 x10 x23 x24 x25 x26 x27 x28 x29 x30 x31 x32 x33 x34 x35 x36 x37 x38 x39 x40 x41 x42 x43 x44 x45 x46 x47 x48 x49 x50 x51 x52 x53 x54 x55 x56 x57 x58 x59 x60 x61 x62 x63 x64 x65 x66 x67 x68 x69 x70 x71 x72 x73 x74 x75 x76 x77 x78 x79 x80 x81 x82 x83 x84 x85 x86 x87 x88 x89 x90 x91 x92 x93 x94 x95 x96 x97 x98 x99 x100 x101 x102 x103 x104 x105 x106 x107 x108 x109 x110 x111 x112 x113 x114 x115 x116 x117 x118 x119 x120 x121 x122 x123 x124 x125 x126 x127 x128 x129 x130 x131 x132 x133 x134 x135 x136 x137 x138 x139 x140 x141 x142 x143 x144 x145 x146 x147 x148 x149 x150 x151 x152 x153 x154 x155 x156 x157 x158 x159 x160 x161 x162 x163 x164 x165 x166 x167 x168 x169 x170 wx h
           dsimp only
           go_step
           go_meet
           exact h
    ·by_cases n7 : kd = 7
     ·subst n7
      by_cases hm : made < 65536
      ·refine sw1_oper s w wf w1 W2 q st out made quant tn ta te sv ov r hs hq hlen k2 k3 k4 HK5 HK6 HTK HRK M2 hm _ _ _ _ _ _ _ _ _ _ _ _ _ _ _ _ _ _ _ _ _ _ _ _ _ _ _ _ _ _ _ _ _ _ _ _ _ _ _ _ _ _ _ _ _ _ _ _ _ _ _ _ _ _ _ _ _ _ _ _ _ _ _ _ _ _ _ _ _ _ _ _ _ _ _ _ _ _ _ _ _ _ _ _ _ _ _ _ _ _ _ _ _ _ _ _ _ _ _ _ _ _ _ _ _ _ _ _ _ _ _ _ _ _ _ _ _ _ _ _ _ _ _ _ _ _ _ _ _ _ _ _ _ _ _ _ _ _ _ _ _ _ _ _ _ _ _ _ _ _ _ _ _ _ _ _ _ _ _ _ _ _ ?_
       intro x5 x6 x9 x10 x23 x24 x25 x26 x27 x28 x29 x30 x31 x32 x33 x34 x35 x36 x37 x38 x39 x40 x41 x42 x43 x44 x45 x46 x47 x48 x49 x50 x51 x52 x53 x54 x55 x56 x57 x58 x59 x60 x61 x62 x63 x64 x65 x66 x67 x68 x69 x70 x71 x72 x73 x74 x75 x76 x77 x78 x79 x80 x81 x82 x83 x84 x85 x86 x87 x88 x89 x90 x91 x92 x93 x94 x95 x96 x97 x98 x99 x100 x101 x102 x103 x104 x105 x106 x107 x108 x109 x110 x111 x112 x113 x114 x115 x116 x117 x118 x119 x120 x121 x122 x123 x124 x125 x126 x127 x128 x129 x130 x131 x132 x133 x134 x135 x136 x137 x138 x139 x140 x141 x142 x143 x144 x145 x146 x147 x148 x149 x150 x151 x152 x153 x154 x155 x156 x157 x158 x159 x160 x161 x162 x163 x164 x165 x166 x167 x168 x169 x170 wx h
       dsimp only
       go_step
       go_meet
       exact h
      ·refine sw1_many s w wf w1 W2 q st out made quant tn ta te sv ov r hs hq hlen k2 k3 k4 HK5 HK6 HTK HRK M2 (by omega) _ _ _ _ _ _ _ _ _ _ _ _ _ _ _ _ _ _ _ _ _ _ _ _ _ _ _ _ _ _ _ _ _ _ _ _ _ _ _ _ _ _ _ _ _ _ _ _ _ _ _ _ _ _ _ _ _ _ _ _ _ _ _ _ _ _ _ _ _ _ _ _ _ _ _ _ _ _ _ _ _ _ _ _ _ _ _ _ _ _ _ _ _ _ _ _ _ _ _ _ _ _ _ _ _ _ _ _ _ _ _ _ _ _ _ _ _ _ _ _ _ _ _ _ _ _ _ _ _ _ _ _ _ _ _ _ _ _ _ _ _ _ _ _ _ _ _ _ _ _ _ _ _ _ _ _ _ _ _ _ _ _ ?_
       intro x5 x6 x9 x10 x23 x24 x25 x26 x27 x28 x29 x30 x31 x32 x33 x34 x35 x36 x37 x38 x39 x40 x41 x42 x43 x44 x45 x46 x47 x48 x49 x50 x51 x52 x53 x54 x55 x56 x57 x58 x59 x60 x61 x62 x63 x64 x65 x66 x67 x68 x69 x70 x71 x72 x73 x74 x75 x76 x77 x78 x79 x80 x81 x82 x83 x84 x85 x86 x87 x88 x89 x90 x91 x92 x93 x94 x95 x96 x97 x98 x99 x100 x101 x102 x103 x104 x105 x106 x107 x108 x109 x110 x111 x112 x113 x114 x115 x116 x117 x118 x119 x120 x121 x122 x123 x124 x125 x126 x127 x128 x129 x130 x131 x132 x133 x134 x135 x136 x137 x138 x139 x140 x141 x142 x143 x144 x145 x146 x147 x148 x149 x150 x151 x152 x153 x154 x155 x156 x157 x158 x159 x160 x161 x162 x163 x164 x165 x166 x167 x168 x169 x170 wx h
       dsimp only
       go_step
       go_meet
       exact h
     ·by_cases n9 : kd = 9
      ·subst n9
       refine sw1_close s w wf w1 W2 q st out made quant tn ta te sv ov r hs hq hlen k2 k3 k4 HK5 HK6 HTK HRK M2  _ _ _ _ _ _ _ _ _ _ _ _ _ _ _ _ _ _ _ _ _ _ _ _ _ _ _ _ _ _ _ _ _ _ _ _ _ _ _ _ _ _ _ _ _ _ _ _ _ _ _ _ _ _ _ _ _ _ _ _ _ _ _ _ _ _ _ _ _ _ _ _ _ _ _ _ _ _ _ _ _ _ _ _ _ _ _ _ _ _ _ _ _ _ _ _ _ _ _ _ _ _ _ _ _ _ _ _ _ _ _ _ _ _ _ _ _ _ _ _ _ _ _ _ _ _ _ _ _ _ _ _ _ _ _ _ _ _ _ _ _ _ _ _ _ _ _ _ _ _ _ _ _ _ _ _ _ _ _ _ _ _ ?_
       intro x5 x6 x9 x10 x23 x24 x25 x26 x27 x28 x29 x30 x31 x32 x33 x34 x35 x36 x37 x38 x39 x40 x41 x42 x43 x44 x45 x46 x47 x48 x49 x50 x51 x52 x53 x54 x55 x56 x57 x58 x59 x60 x61 x62 x63 x64 x65 x66 x67 x68 x69 x70 x71 x72 x73 x74 x75 x76 x77 x78 x79 x80 x81 x82 x83 x84 x85 x86 x87 x88 x89 x90 x91 x92 x93 x94 x95 x96 x97 x98 x99 x100 x101 x102 x103 x104 x105 x106 x107 x108 x109 x110 x111 x112 x113 x114 x115 x116 x117 x118 x119 x120 x121 x122 x123 x124 x125 x126 x127 x128 x129 x130 x131 x132 x133 x134 x135 x136 x137 x138 x139 x140 x141 x142 x143 x144 x145 x146 x147 x148 x149 x150 x151 x152 x153 x154 x155 x156 x157 x158 x159 x160 x161 x162 x163 x164 x165 x166 x167 x168 x169 x170 wx h
       dsimp only
       go_step
       go_meet
       exact h
      ·by_cases n10 : kd = 10
       ·subst n10
        refine sw1_comma s w wf w1 W2 q st out made quant tn ta te sv ov r hs hq hlen k2 k3 k4 HK5 HK6 HTK HRK M2  _ _ _ _ _ _ _ _ _ _ _ _ _ _ _ _ _ _ _ _ _ _ _ _ _ _ _ _ _ _ _ _ _ _ _ _ _ _ _ _ _ _ _ _ _ _ _ _ _ _ _ _ _ _ _ _ _ _ _ _ _ _ _ _ _ _ _ _ _ _ _ _ _ _ _ _ _ _ _ _ _ _ _ _ _ _ _ _ _ _ _ _ _ _ _ _ _ _ _ _ _ _ _ _ _ _ _ _ _ _ _ _ _ _ _ _ _ _ _ _ _ _ _ _ _ _ _ _ _ _ _ _ _ _ _ _ _ _ _ _ _ _ _ _ _ _ _ _ _ _ _ _ _ _ _ _ _ _ _ _ _ _ ?_
        intro x5 x6 x9 x10 x23 x24 x25 x26 x27 x28 x29 x30 x31 x32 x33 x34 x35 x36 x37 x38 x39 x40 x41 x42 x43 x44 x45 x46 x47 x48 x49 x50 x51 x52 x53 x54 x55 x56 x57 x58 x59 x60 x61 x62 x63 x64 x65 x66 x67 x68 x69 x70 x71 x72 x73 x74 x75 x76 x77 x78 x79 x80 x81 x82 x83 x84 x85 x86 x87 x88 x89 x90 x91 x92 x93 x94 x95 x96 x97 x98 x99 x100 x101 x102 x103 x104 x105 x106 x107 x108 x109 x110 x111 x112 x113 x114 x115 x116 x117 x118 x119 x120 x121 x122 x123 x124 x125 x126 x127 x128 x129 x130 x131 x132 x133 x134 x135 x136 x137 x138 x139 x140 x141 x142 x143 x144 x145 x146 x147 x148 x149 x150 x151 x152 x153 x154 x155 x156 x157 x158 x159 x160 x161 x162 x163 x164 x165 x166 x167 x168 x169 x170 wx h
        dsimp only
        go_step
        go_meet
        exact h
       ·by_cases n0 : kd = 0
        ·subst n0
         have HP := hid (inner_any M2.out HK5.out (by omega) k4)
         have hin := fun x t o (e : settleIn st out = (x :: t, o)) => settleIn_top e
         have hsl := settleIn_len st out
         have hst : stepP ⟨st, out, made, 1, quant⟩ ⟨0, tn, ta, te⟩ = endsP ⟨st, out, made, 1, quant⟩ := by simp [stepP]
         unfold endsP at hst
         dsimp only at hst
         have c2 := fun j => cell_row M2.out.row j
         have hb2 := M2.out.size
         have tr := M2.out.tok _ _ HRK.out
         have tc := fun j => cell_row tr j
         have htb := (Array.getElem?_eq_some_iff.1 tr).1
         clear tr
         conv in (Option.getD _ _) => whnf
         generalize settleIn st out = pr at hst HP hin hsl
         obtain ⟨ss, oo⟩ := pr
         dsimp only at HP hsl
         cases ss with
         | nil =>
          dsimp only at hst
          have HPO : Hid (parseF s.data.toList = .ok oo) := by
           show _ = _
           have e := HRD.out oo hst
           rw [HRU.out] at e
           exact parseF_ok (by rw [HL.out]; exact hs) e
          clear hst hin
          go_wp2_with (first
           |(have q := M3; clear q; go_at_call 25; refine (top_any M3.out (by simp)).mono ?_; rintro e w4 ⟨rfl, m4⟩; simp only [kindOf]; have fb := m4.below; rw [HRW.out] at fb; have fr := (fb.block w.heap.size (by rw [HWS.out]; omega)).trans HWR.out; have c6 := fun j => cell_row fr j; have f6 := fun j => unfrozen_row fr j; have h6 := (Array.getElem?_eq_some_iff.1 fr).1; have HFR := hid fr; have HBL := hid (HWB.out.trans (fb.mono HWB.out.size)); clear fb fr; have c4 := fun j => cell_row m4.row j; have f4 := fun j => unfrozen_row m4.row j; have hb4 := m4.size; have tr4 := m4.tok _ _ HRK.out; have tc4 := fun j => cell_row tr4 j; have ht4 := (Array.getElem?_eq_some_iff.1 tr4).1; have M4 := hid m4; clear m4 tr4)
           |(go_at_call 24; refine HP.out.mono ?_; rintro e w3 ⟨rfl, svx, ovx, m3⟩; have c3 := fun j => cell_row m3.row j; have f3 := fun j => unfrozen_row m3.row j; have hb3 := m3.size; have tr3 := m3.tok _ _ HRK.out; have tc3 := fun j => cell_row tr3 j; have ht3 := (Array.getElem?_eq_some_iff.1 tr3).1; have M3 := hid m3; clear m3 tr3))
          exact bodyPost_ret (v := .tuple #[ovx, .agg #[.int .i64 0, .int .i64 0, .int .i64 0]]) (by simp [results, Tryz.results7, go_sem, c6]) rfl ⟨ParsedF.ok HPO.out rfl (own_three (ownsRow_base M4.out.oout HWB.out.size) HFR.out _ _ _), ((HBL.out.setCell (p := ⟨w.heap.size, 0, none⟩) (by simp) _).setCell (p := ⟨w.heap.size, 1, none⟩) (by simp) _).setCell (p := ⟨w.heap.size, 2, none⟩) (by simp) _⟩
         | cons x t =>
          dsimp only at hst
          have HST := hid hst
          have hx := hin x t oo rfl
          simp only [List.length_cons] at hsl
          have hxb : ((x.kind : Int) == 0) = false := by rw [beq_eq_false_iff_ne]; omega
          clear hst hin hx
          go_wp2_with (first
           |(have q := M3; clear q; go_at_call 25; refine (top_any M3.out (by simp; omega)).mono ?_; rintro e w4 ⟨rfl, m4⟩; simp only [kindOf]; have c4 := fun j => cell_row m4.row j; have f4 := fun j => unfrozen_row m4.row j; have hb4 := m4.size; have tr4 := m4.tok _ _ HRK.out; have tc4 := fun j => cell_row tr4 j; have ht4 := (Array.getElem?_eq_some_iff.1 tr4).1; have M4 := hid m4; clear m4 tr4)
           |(go_at_call 24; refine HP.out.mono ?_; rintro e w3 ⟨rfl, svx, ovx, m3⟩; have c3 := fun j => cell_row m3.row j; have f3 := fun j => unfrozen_row m3.row j; have hb3 := m3.size; have tr3 := m3.tok _ _ HRK.out; have tc3 := fun j => cell_row tr3 j; have ht3 := (Array.getElem?_eq_some_iff.1 tr3).1; have M3 := hid m3; clear m3 tr3))
          go_meet
          exact .inl ⟨131, by decide, rfl, HST.out, M4.out.asE⟩
        ·refine sw1_no s w wf w1 W2 q st out made quant kd tn ta te sv ov r hs hq hlen k2 k3 k4 HK5 HK6 HTK HRK M2 n0 n1 n7 n9 n10 _ _ _ _ _ _ _ _ _ _ _ _ _ _ _ _ _ _ _ _ _ _ _ _ _ _ _ _ _ _ _ _ _ _ _ _ _ _ _ _ _ _ _ _ _ _ _ _ _ _ _ _ _ _ _ _ _ _ _ _ _ _ _ _ _ _ _ _ _ _ _ _ _ _ _ _ _ _ _ _ _ _ _ _ _ _ _ _ _ _ _ _ _ _ _ _ _ _ _ _ _ _ _ _ _ _ _ _ _ _ _ _ _ _ _ _ _ _ _ _ _ _ _ _ _ _ _ _ _ _ _ _ _ _ _ _ _ _ _ _ _ _ _ _ _ _ _ _ _ _ _ _ _ _ _ _ _ _ _ _ _ _ ?_
         intro x5 x6 x9 x10 x23 x24 x25 x26 x27 x28 x29 x30 x31 x32 x33 x34 x35 x36 x37 x38 x39 x40 x41 x42 x43 x44 x45 x46 x47 x48 x49 x50 x51 x52 x53 x54 x55 x56 x57 x58 x59 x60 x61 x62 x63 x64 x65 x66 x67 x68 x69 x70 x71 x72 x73 x74 x75 x76 x77 x78 x79 x80 x81 x82 x83 x84 x85 x86 x87 x88 x89 x90 x91 x92 x93 x94 x95 x96 x97 x98 x99 x100 x101 x102 x103 x104 x105 x106 x107 x108 x109 x110 x111 x112 x113 x114 x115 x116 x117 x118 x119 x120 x121 x122 x123 x124 x125 x126 x127 x128 x129 x130 x131 x132 x133 x134 x135 x136 x137 x138 x139 x140 x141 x142 x143 x144 x145 x146 x147 x148 x149 x150 x151 x152 x153 x154 x155 x156 x157 x158 x159 x160 x161 x162 x163 x164 x165 x166 x167 x168 x169 x170 wx h
         dsimp only
         go_step
         go_meet
         exact h
    ·by_cases n8 : kd = 8
     ·subst n8
      refine sw2_open s w wf w1 W2 q st out made quant tn ta te sv ov r hs hq hlen k2 k3 k4 HK5 HK6 HTK HRK M2  _ _ _ _ _ _ _ _ _ _ _ _ _ _ _ _ _ _ _ _ _ _ _ _ _ _ _ _ _ _ _ _ _ _ _ _ _ _ _ _ _ _ _ _ _ _ _ _ _ _ _ _ _ _ _ _ _ _ _ _ _ _ _ _ _ _ _ _ _ _ _ _ _ _ _ _ _ _ _ _ _ _ _ _ _ _ _ _ _ _ _ _ _ _ _ _ _ _ _ _ _ _ _ _ _ _ _ _ _ _ _ _ _ _ _ _ _ _ _ _ _ _ _ _ _ _ _ _ _ _ _ _ _ _ _ _ _ _ _ _ _ _ _ _ _ _ _ _ _ _ _ _ _ _ _ _ _ _ _ _ _ _ ?_
      intro x5 x6 x9 x10 x23 x24 x25 x26 x27 x28 x29 x30 x31 x32 x33 x34 x35 x36 x37 x38 x39 x40 x41 x42 x43 x44 x45 x46 x47 x48 x49 x50 x51 x52 x53 x54 x55 x56 x57 x58 x59 x60 x61 x62 x63 x64 x65 x66 x67 x68 x69 x70 x71 x72 x73 x74 x75 x76 x77 x78 x79 x80 x81 x82 x83 x84 x85 x86 x87 x88 x89 x90 x91 x92 x93 x94 x95 x96 x97 x98 x99 x100 x101 x102 x103 x104 x105 x106 x107 x108 x109 x110 x111 x112 x113 x114 x115 x116 x117 x118 x119 x120 x121 x122 x123 x124 x125 x126 x127 x128 x129 x130 x131 x132 x133 x134 x135 x136 x137 x138 x139 x140 x141 x142 x143 x144 x145 x146 x147 x148 x149 x150 x151 x152 x153 x154 x155 x156 x157 x158 x159 x160 x161 x162 x163 x164 x165 x166 x167 x168 x169 x170 wx h
      dsimp only
      go_step
      go_meet
      exact h
     ·refine sw2_no s w wf w1 W2 q st out made quant kd tn ta te sv ov r hs hq hlen k2 k3 k4 HK5 HK6 HTK HRK M2 n1 n8 _ _ _ _ _ _ _ _ _ _ _ _ _ _ _ _ _ _ _ _ _ _ _ _ _ _ _ _ _ _ _ _ _ _ _ _ _ _ _ _ _ _ _ _ _ _ _ _ _ _ _ _ _ _ _ _ _ _ _ _ _ _ _ _ _ _ _ _ _ _ _ _ _ _ _ _ _ _ _ _ _ _ _ _ _ _ _ _ _ _ _ _ _ _ _ _ _ _ _ _ _ _ _ _ _ _ _ _ _ _ _ _ _ _ _ _ _ _ _ _ _ _ _ _ _ _ _ _ _ _ _ _ _ _ _ _ _ _ _ _ _ _ _ _ _ _ _ _ _ _ _ _ _ _ _ _ _ _ _ _ _ _ ?_
      intro x5 x6 x9 x10 x23 x24 x25 x26 x27 x28 x29 x30 x31 x32 x33 x34 x35 x36 x37 x38 x39 x40 x41 x42 x43 x44 x45 x46 x47 x48 x49 x50 x51 x52 x53 x54 x55 x56 x57 x58 x59 x60 x61 x62 x63 x64 x65 x66 x67 x68 x69 x70 x71 x72 x73 x74 x75 x76 x77 x78 x79 x80 x81 x82 x83 x84 x85 x86 x87 x88 x89 x90 x91 x92 x93 x94 x95 x96 x97 x98 x99 x100 x101 x102 x103 x104 x105 x106 x107 x108 x109 x110 x111 x112 x113 x114 x115 x116 x117 x118 x119 x120 x121 x122 x123 x124 x125 x126 x127 x128 x129 x130 x131 x132 x133 x134 x135 x136 x137 x138 x139 x140 x141 x142 x143 x144 x145 x146 x147 x148 x149 x150 x151 x152 x153 x154 x155 x156 x157 x158 x159 x160 x161 x162 x163 x164 x165 x166 x167 x168 x169 x170 wx h
      dsimp only
      go_step
      go_meet
      exact h
    ·by_cases n3 : kd = 3
     ·subst n3
      by_cases hdp : 64 ≤ opnOf st
      ·refine sw3_deep s w wf w1 W2 q st out made quant tn ta te sv ov r hs hq hlen k2 k3 k4 HK5 HK6 HTK HRK M2 hdp _ _ _ _ _ _ _ _ _ _ _ _ _ _ _ _ _ _ _ _ _ _ _ _ _ _ _ _ _ _ _ _ _ _ _ _ _ _ _ _ _ _ _ _ _ _ _ _ _ _ _ _ _ _ _ _ _ _ _ _ _ _ _ _ _ _ _ _ _ _ _ _ _ _ _ _ _ _ _ _ _ _ _ _ _ _ _ _ _ _ _ _ _ _ _ _ _ _ _ _ _ _ _ _ _ _ _ _ _ _ _ _ _ _ _ _ _ _ _ _ _ _ _ _ _ _ _ _ _ _ _ _ _ _ _ _ _ _ _ _ _ _ _ _ _ _ _ _ _ _ _ _ _ _ _ _ _ _ _ _ _ _ ?_
       intro x5 x6 x9 x10 x23 x24 x25 x26 x27 x28 x29 x30 x31 x32 x33 x34 x35 x36 x37 x38 x39 x40 x41 x42 x43 x44 x45 x46 x47 x48 x49 x50 x51 x52 x53 x54 x55 x56 x57 x58 x59 x60 x61 x62 x63 x64 x65 x66 x67 x68 x69 x70 x71 x72 x73 x74 x75 x76 x77 x78 x79 x80 x81 x82 x83 x84 x85 x86 x87 x88 x89 x90 x91 x92 x93 x94 x95 x96 x97 x98 x99 x100 x101 x102 x103 x104 x105 x106 x107 x108 x109 x110 x111 x112 x113 x114 x115 x116 x117 x118 x119 x120 x121 x122 x123 x124 x125 x126 x127 x128 x129 x130 x131 x132 x133 x134 x135 x136 x137 x138 x139 x140 x141 x142 x143 x144 x145 x146 x147 x148 x149 x150 x151 x152 x153 x154 x155 x156 x157 x158 x159 x160 x161 x162 x163 x164 x165 x166 x167 x168 x169 x170 wx h
       dsimp only
       go_step
       go_meet
       exact h
      ·by_cases hm : made < 65536
       ·refine sw3_ok s w wf w1 W2 q st out made quant tn ta te sv ov r hs hq hlen k2 k3 k4 HK5 HK6 HTK HRK M2 hdp hm _ _ _ _ _ _ _ _ _ _ _ _ _ _ _ _ _ _ _ _ _ _ _ _ _ _ _ _ _ _ _ _ _ _ _ _ _ _ _ _ _ _ _ _ _ _ _ _ _ _ _ _ _ _ _ _ _ _ _ _ _ _ _ _ _ _ _ _ _ _ _ _ _ _ _ _ _ _ _ _ _ _ _ _ _ _ _ _ _ _ _ _ _ _ _ _ _ _ _ _ _ _ _ _ _ _ _ _ _ _ _ _ _ _ _ _ _ _ _ _ _ _ _ _ _ _ _ _ _ _ _ _ _ _ _ _ _ _ _ _ _ _ _ _ _ _ _ _ _ _ _ _ _ _ _ _ _ _ _ _ _ _ ?_
        intro x5 x6 x9 x10 x23 x24 x25 x26 x27 x28 x29 x30 x31 x32 x33 x34 x35 x36 x37 x38 x39 x40 x41 x42 x43 x44 x45 x46 x47 x48 x49 x50 x51 x52 x53 x54 x55 x56 x57 x58 x59 x60 x61 x62 x63 x64 x65 x66 x67 x68 x69 x70 x71 x72 x73 x74 x75 x76 x77 x78 x79 x80 x81 x82 x83 x84 x85 x86 x87 x88 x89 x90 x91 x92 x93 x94 x95 x96 x97 x98 x99 x100 x101 x102 x103 x104 x105 x106 x107 x108 x109 x110 x111 x112 x113 x114 x115 x116 x117 x118 x119 x120 x121 x122 x123 x124 x125 x126 x127 x128 x129 x130 x131 x132 x133 x134 x135 x136 x137 x138 x139 x140 x141 x142 x143 x144 x145 x146 x147 x148 x149 x150 x151 x152 x153 x154 x155 x156 x157 x158 x159 x160 x161 x162 x163 x164 x165 x166 x167 x168 x169 x170 wx h
        dsimp only
        go_step
        go_meet
        exact h
       ·refine sw3_many s w wf w1 W2 q st out made quant tn ta te sv ov r hs hq hlen k2 k3 k4 HK5 HK6 HTK HRK M2 hdp (by omega) _ _ _ _ _ _ _ _ _ _ _ _ _ _ _ _ _ _ _ _ _ _ _ _ _ _ _ _ _ _ _ _ _ _ _ _ _ _ _ _ _ _ _ _ _ _ _ _ _ _ _ _ _ _ _ _ _ _ _ _ _ _ _ _ _ _ _ _ _ _ _ _ _ _ _ _ _ _ _ _ _ _ _ _ _ _ _ _ _ _ _ _ _ _ _ _ _ _ _ _ _ _ _ _ _ _ _ _ _ _ _ _ _ _ _ _ _ _ _ _ _ _ _ _ _ _ _ _ _ _ _ _ _ _ _ _ _ _ _ _ _ _ _ _ _ _ _ _ _ _ _ _ _ _ _ _ _ _ _ _ _ _ ?_
        intro x5 x6 x9 x10 x23 x24 x25 x26 x27 x28 x29 x30 x31 x32 x33 x34 x35 x36 x37 x38 x39 x40 x41 x42 x43 x44 x45 x46 x47 x48 x49 x50 x51 x52 x53 x54 x55 x56 x57 x58 x59 x60 x61 x62 x63 x64 x65 x66 x67 x68 x69 x70 x71 x72 x73 x74 x75 x76 x77 x78 x79 x80 x81 x82 x83 x84 x85 x86 x87 x88 x89 x90 x91 x92 x93 x94 x95 x96 x97 x98 x99 x100 x101 x102 x103 x104 x105 x106 x107 x108 x109 x110 x111 x112 x113 x114 x115 x116 x117 x118 x119 x120 x121 x122 x123 x124 x125 x126 x127 x128 x129 x130 x131 x132 x133 x134 x135 x136 x137 x138 x139 x140 x141 x142 x143 x144 x145 x146 x147 x148 x149 x150 x151 x152 x153 x154 x155 x156 x157 x158 x159 x160 x161 x162 x163 x164 x165 x166 x167 x168 x169 x170 wx h
        dsimp only
        go_step
        go_meet
        exact h
     ·refine sw3_no s w wf w1 W2 q st out made quant kd tn ta te sv ov r hs hq hlen k2 k3 k4 HK5 HK6 HTK HRK M2 n1 n3 _ _ _ _ _ _ _ _ _ _ _ _ _ _ _ _ _ _ _ _ _ _ _ _ _ _ _ _ _ _ _ _ _ _ _ _ _ _ _ _ _ _ _ _ _ _ _ _ _ _ _ _ _ _ _ _ _ _ _ _ _ _ _ _ _ _ _ _ _ _ _ _ _ _ _ _ _ _ _ _ _ _ _ _ _ _ _ _ _ _ _ _ _ _ _ _ _ _ _ _ _ _ _ _ _ _ _ _ _ _ _ _ _ _ _ _ _ _ _ _ _ _ _ _ _ _ _ _ _ _ _ _ _ _ _ _ _ _ _ _ _ _ _ _ _ _ _ _ _ _ _ _ _ _ _ _ _ _ _ _ _ _ ?_
      intro x5 x6 x9 x10 x23 x24 x25 x26 x27 x28 x29 x30 x31 x32 x33 x34 x35 x36 x37 x38 x39 x40 x41 x42 x43 x44 x45 x46 x47 x48 x49 x50 x51 x52 x53 x54 x55 x56 x57 x58 x59 x60 x61 x62 x63 x64 x65 x66 x67 x68 x69 x70 x71 x72 x73 x74 x75 x76 x77 x78 x79 x80 x81 x82 x83 x84 x85 x86 x87 x88 x89 x90 x91 x92 x93 x94 x95 x96 x97 x98 x99 x100 x101 x102 x103 x104 x105 x106 x107 x108 x109 x110 x111 x112 x113 x114 x115 x116 x117 x118 x119 x120 x121 x122 x123 x124 x125 x126 x127 x128 x129 x130 x131 x132 x133 x134 x135 x136 x137 x138 x139 x140 x141 x142 x143 x144 x145 x146 x147 x148 x149 x150 x151 x152 x153 x154 x155 x156 x157 x158 x159 x160 x161 x162 x163 x164 x165 x166 x167 x168 x169 x170 wx h
      dsimp only
      go_step
      go_meet
      exact h
    ·by_cases n10 : kd = 10
     ·subst n10
      refine sw4_comma s w wf w1 W2 q st out made quant tn ta te sv ov r hs hq hlen k2 k3 k4 HK5 HK6 HTK HRK M2  _ _ _ _ _ _ _ _ _ _ _ _ _ _ _ _ _ _ _ _ _ _ _ _ _ _ _ _ _ _ _ _ _ _ _ _ _ _ _ _ _ _ _ _ _ _ _ _ _ _ _ _ _ _ _ _ _ _ _ _ _ _ _ _ _ _ _ _ _ _ _ _ _ _ _ _ _ _ _ _ _ _ _ _ _ _ _ _ _ _ _ _ _ _ _ _ _ _ _ _ _ _ _ _ _ _ _ _ _ _ _ _ _ _ _ _ _ _ _ _ _ _ _ _ _ _ _ _ _ _ _ _ _ _ _ _ _ _ _ _ _ _ _ _ _ _ _ _ _ _ _ _ _ _ _ _ _ _ _ _ _ _ ?_
      intro x5 x6 x9 x10 x23 x24 x25 x26 x27 x28 x29 x30 x31 x32 x33 x34 x35 x36 x37 x38 x39 x40 x41 x42 x43 x44 x45 x46 x47 x48 x49 x50 x51 x52 x53 x54 x55 x56 x57 x58 x59 x60 x61 x62 x63 x64 x65 x66 x67 x68 x69 x70 x71 x72 x73 x74 x75 x76 x77 x78 x79 x80 x81 x82 x83 x84 x85 x86 x87 x88 x89 x90 x91 x92 x93 x94 x95 x96 x97 x98 x99 x100 x101 x102 x103 x104 x105 x106 x107 x108 x109 x110 x111 x112 x113 x114 x115 x116 x117 x118 x119 x120 x121 x122 x123 x124 x125 x126 x127 x128 x129 x130 x131 x132 x133 x134 x135 x136 x137 x138 x139 x140 x141 x142 x143 x144 x145 x146 x147 x148 x149 x150 x151 x152 x153 x154 x155 x156 x157 x158 x159 x160 x161 x162 x163 x164 x165 x166 x167 x168 x169 x170 wx h
      dsimp only
      go_step
      go_meet
      exact h
     ·by_cases n11 : kd = 11
      ·subst n11
       refine sw4_colon s w wf w1 W2 q st out made quant tn ta te sv ov r hs hq hlen k2 k3 k4 HK5 HK6 HTK HRK M2  _ _ _ _ _ _ _ _ _ _ _ _ _ _ _ _ _ _ _ _ _ _ _ _ _ _ _ _ _ _ _ _ _ _ _ _ _ _ _ _ _ _ _ _ _ _ _ _ _ _ _ _ _ _ _ _ _ _ _ _ _ _ _ _ _ _ _ _ _ _ _ _ _ _ _ _ _ _ _ _ _ _ _ _ _ _ _ _ _ _ _ _ _ _ _ _ _ _ _ _ _ _ _ _ _ _ _ _ _ _ _ _ _ _ _ _ _ _ _ _ _ _ _ _ _ _ _ _ _ _ _ _ _ _ _ _ _ _ _ _ _ _ _ _ _ _ _ _ _ _ _ _ _ _ _ _ _ _ _ _ _ _ ?_
       intro x5 x6 x9 x10 x23 x24 x25 x26 x27 x28 x29 x30 x31 x32 x33 x34 x35 x36 x37 x38 x39 x40 x41 x42 x43 x44 x45 x46 x47 x48 x49 x50 x51 x52 x53 x54 x55 x56 x57 x58 x59 x60 x61 x62 x63 x64 x65 x66 x67 x68 x69 x70 x71 x72 x73 x74 x75 x76 x77 x78 x79 x80 x81 x82 x83 x84 x85 x86 x87 x88 x89 x90 x91 x92 x93 x94 x95 x96 x97 x98 x99 x100 x101 x102 x103 x104 x105 x106 x107 x108 x109 x110 x111 x112 x113 x114 x115 x116 x117 x118 x119 x120 x121 x122 x123 x124 x125 x126 x127 x128 x129 x130 x131 x132 x133 x134 x135 x136 x137 x138 x139 x140 x141 x142 x143 x144 x145 x146 x147 x148 x149 x150 x151 x152 x153 x154 x155 x156 x157 x158 x159 x160 x161 x162 x163 x164 x165 x166 x167 x168 x169 x170 wx h
       dsimp only
       go_step
       go_meet
       exact h
      ·refine sw4_no s w wf w1 W2 q st out made quant kd tn ta te sv ov r hs hq hlen k2 k3 k4 HK5 HK6 HTK HRK M2 n1 n10 n11 _ _ _ _ _ _ _ _ _ _ _ _ _ _ _ _ _ _ _ _ _ _ _ _ _ _ _ _ _ _ _ _ _ _ _ _ _ _ _ _ _ _ _ _ _ _ _ _ _ _ _ _ _ _ _ _ _ _ _ _ _ _ _ _ _ _ _ _ _ _ _ _ _ _ _ _ _ _ _ _ _ _ _ _ _ _ _ _ _ _ _ _ _ _ _ _ _ _ _ _ _ _ _ _ _ _ _ _ _ _ _ _ _ _ _ _ _ _ _ _ _ _ _ _ _ _ _ _ _ _ _ _ _ _ _ _ _ _ _ _ _ _ _ _ _ _ _ _ _ _ _ _ _ _ _ _ _ _ _ _ _ _ ?_
       intro x5 x6 x9 x10 x23 x24 x25 x26 x27 x28 x29 x30 x31 x32 x33 x34 x35 x36 x37 x38 x39 x40 x41 x42 x43 x44 x45 x46 x47 x48 x49 x50 x51 x52 x53 x54 x55 x56 x57 x58 x59 x60 x61 x62 x63 x64 x65 x66 x67 x68 x69 x70 x71 x72 x73 x74 x75 x76 x77 x78 x79 x80 x81 x82 x83 x84 x85 x86 x87 x88 x89 x90 x91 x92 x93 x94 x95 x96 x97 x98 x99 x100 x101 x102 x103 x104 x105 x106 x107 x108 x109 x110 x111 x112 x113 x114 x115 x116 x117 x118 x119 x120 x121 x122 x123 x124 x125 x126 x127 x128 x129 x130 x131 x132 x133 x134 x135 x136 x137 x138 x139 x140 x141 x142 x143 x144 x145 x146 x147 x148 x149 x150 x151 x152 x153 x154 x155 x156 x157 x158 x159 x160 x161 x162 x163 x164 x165 x166 x167 x168 x169 x170 wx h
       dsimp only
       go_step
       go_meet
       exact h
  case rest =>
   clear c2 f2 hb2 tc M2 HW2 htb
   obtain ⟨wd, hwd⟩ : ∃ wd, wd = wc := ⟨_, rfl⟩
   subst hwd
   rcases hcut.out with ⟨cd, hcd, rfl, hstep, stx, outx, kx, mx, svx, ovx, mm⟩ | ⟨p', rfl, hstep, rfl, rfl, svx, ovx, mm⟩
   ·have HPE : Hid (parseF s.data.toList = .error (cd, some ta)) := by
     show _ = _
     have e := HRE.out cd hstep
     rw [HRUN.out] at e
     exact parseF_err (by rw [HL.out]; exact hs) e
    have hat := HTK.out.at_
    dsimp only at hat
    rw [HL.out] at hat
    have HSP := hid (fun W => spot_any s ta W (by omega) hat)
    have tr := mm.tok w1.heap.size #[.int .i64 (kd : Int), .int .i64 (tn : Int), .int .i64 (ta : Int), .int .i64 (te : Int)] (by rw [HRR.out])
    have tc := fun j => cell_row tr j
    have htb := (Array.getElem?_eq_some_iff.1 tr).1
    have hcb : ((cd : Int) != 0) = true := by rw [bne_iff_ne]; omega
    have MM := hid mm
    clear mm hstep tr hcut
    obtain ⟨ln, hln⟩ : ∃ x, x = (spotN (s.data.toList.take ta)).1 := ⟨_, rfl⟩
    obtain ⟨cl, hcl⟩ : ∃ x, x = (spotN (s.data.toList.take ta)).2 := ⟨_, rfl⟩
    rw [← hln, ← hcl] at HSP
    have HFV : Hid (faultF s.data.toList (cd, some ta) = .agg #[.int .i64 (cd : Int), .int .i64 (ln : Int), .int .i64 (cl : Int)]) := by show _ = _; rw [hln, hcl]; rfl
    clear hln hcl
    go_wp2_with (go_at_call 26; refine (HSP.out _).mono ?_; rintro e w5 ⟨rfl, b5⟩; have M5 := hid ((MM.out.on b5).alloc (Obj.cells #[.int .i64 (ln : Int), .int .i64 (cl : Int)] 26)); have PR : Hid ((w5.alloc (Obj.cells #[.int .i64 (ln : Int), .int .i64 (cl : Int)] 26)).heap[w5.heap.size]? = some (Obj.cells #[.int .i64 (ln : Int), .int .i64 (cl : Int)] 26)) := heap_alloc_new w5 _; clear b5)
    generalize w5.alloc (Obj.cells #[.int .i64 (ln : Int), .int .i64 (cl : Int)] 26) = w6 at *
    have hbl := M5.out.below
    have hrr : r.w = wf := by rw [HRR.out]
    rw [hrr] at hbl
    have fr := (hbl.block w.heap.size (by rw [HWS.out]; omega)).trans HWR.out
    have c6 := fun j => cell_row fr j
    have f6 := fun j => unfrozen_row fr j
    have c7 := fun j => cell_row PR.out j
    have h6 := (Array.getElem?_eq_some_iff.1 fr).1
    have h7 := (Array.getElem?_eq_some_iff.1 PR.out).1
    have HBL := hid (HWB.out.trans (hbl.mono HWB.out.size))
    clear hbl hrr fr tc
    go_region
    all_goals
     go_wp2
     exact bodyPost_ret (v := .tuple #[.slice none 0 0, .agg #[.int .i64 (cd : Int), .int .i64 (ln : Int), .int .i64 (cl : Int)]]) (by simp [results, Tryz.results7, go_sem, c6]) rfl ⟨ParsedF.err HPE.out (by rw [HFV.out]), (((below_drew HBL.out).setCell (p := ⟨w.heap.size, 0, none⟩) (by simp) _).setCell (p := ⟨w.heap.size, 1, none⟩) (by simp) _).setCell (p := ⟨w.heap.size, 2, none⟩) (by simp) _⟩
   ·have hk0 : kd ≠ 0 := fun e => stepP_end e hstep
    obtain ⟨he1, he2⟩ := HTK.out.end_ hk0
    dsimp only at he1 he2
    rw [HL.out] at he2
    have HRN : Hid (runP p' (toksFrom s.data.toList te) = runP ⟨[], [], 0, 0, 0⟩ (toksFrom s.data.toList 0)) := by
     show _ = _
     rw [← HRUN.out]
     exact (HRO.out p' hk0 hstep).symm
    have HPK := hid (stepP_ok HOK.out HTK.out hstep)
    have hlen' := stepP_len k2 hstep
    have MM : Hid (MacR ⟨wf, none⟩ wd wf.heap.size wf.heap.size p'.st p'.out (opnOf p'.st : Int) p'.made svx ovx) := by
     have e : r.w = wf := by rw [HRR.out]
     exact ⟨mm.row, mm.ost, mm.oout, mm.hB, by have := mm.below; rwa [e] at this, fun tb cs e => by cases e⟩
    clear mm hstep hcut
    go_wp2
    exact ⟨⟨te, p'.st, p'.out, p'.made, p'.want, p'.quant, svx, ovx, he2, rfl, rfl, rfl, by dsimp only at hlen'; omega, HRN.out, HPK.out, MM.out⟩, by simp [intOf]; omega⟩
end Go.Proofs.YtdkboifpdodonacGreatDoor.Ref
/-
 FormulaReads: the law, over a contract of the program's own Parse.
-/
namespace Go.Proofs.YtdkboifpdodonacGreatDoor.Ref
open Go.RowKit Go.Deep PureCnf PureForm
set_option maxRecDepth 100000






/-- the document's own Parse, whatever the text. -/
theorem parse_own (s : ByteArray) (w : World) (g o c : Nat) (hsg : SignsAt w g o c) (hs : s.size ≤ 9223372036854775807) : Calls Tryz.prog 7 #[.string s] w fun e w' => ParsedF s.data.toList w.heap.size e w' ∧ Below w.heap.size w w' := by
 by_cases h : s.size ≤ 1048576
 ·exact parse_short s w g o c hsg h
 ·exact parse_long s w hs (by omega)

end Go.Proofs.YtdkboifpdodonacGreatDoor.Ref
/-
 The table of signs, as the row's list gives it.
-/
namespace Go.Proofs.YtdkboifpdodonacGreatDoor.Ref
open Go.RowKit Go.Deep PureCnf PureForm
set_option maxRecDepth 100000

theorem cells9 : Tryz.prog.cellsOf 9 = 1 := by kernel_rfl
theorem cells3 : Tryz.prog.cellsOf 3 = 1 := by kernel_rfl
theorem cells88 : Tryz.prog.cellsOf 108 = 3 := by kernel_rfl

/-- a spelling as data. -/
def signD (x : List UInt8 × Nat × Nat) : DataW Unit := .agg [.lit (.string x.1), .lit (.int .i64 (x.2.1 : Int)), .lit (.int .i64 (x.2.2 : Int))]

theorem add_off (g o k : Nat) : (⟨g, o, none⟩ : Addr).add k = ⟨g, o + k, none⟩ := by
 unfold Addr.add
 split <;> simp_all

set_option maxRecDepth 100000 in
theorem laid_table {W : World} {fuel : Nat} {cs : List Value} {p : List MemPlace} (h : DataW.trod (fun _ => ()) Tryz.prog W 0 (fun _ => true) false fuel 107 cs = some (.slice (signs.map signD) [], p)) :
  ∃ g o cap, cs = [.slice (some ⟨g, o, none⟩) 21 cap] ∧ g < W.heap.size ∧ ∀ k, k < 21 → W.cell? ⟨g, o + k * 3, none⟩ = some (str (sg k).1) ∧ W.cell? ⟨g, o + k * 3 + 1, none⟩ = some (.int .i64 (sg k).2.1) ∧ W.cell? ⟨g, o + k * 3 + 2, none⟩ = some (.int .i64 (sg k).2.2) := by
 rcases DataW.trod_slice Tryz.underlying107 h with ⟨_, h0⟩ | ⟨a, len, cap, elems, rest, n, _, rfl, hx, _, _, _, hlen, hel, _, _⟩
 ·simp at h0
 ·simp only [Prod.mk.injEq, DataW.slice.injEq] at hx
  obtain ⟨⟨hmap, _⟩, _⟩ := hx
  have hl : len = 21 := by
   have := congrArg List.length hmap
   simp [signs] at this
   omega
  rw [hl] at hel
  have each : ∀ k, k < 21 → W.cell? (a.add (k * 3 + 0)) = some (str (sg k).1) ∧ W.cell? (a.add (k * 3 + 1)) = some (.int .i64 (sg k).2.1) ∧ W.cell? (a.add (k * 3 + 2)) = some (.int .i64 (sg k).2.2) := by
   intro k hk
   have hk2 : k < elems.length := by omega
   have hy := hel k hk
   rw [List.getElem?_eq_getElem hk2, cells88, Option.bind_eq_some_iff] at hy
   obtain ⟨cs, hcs, ht⟩ := hy
   have hd : elems[k].1 = signD (sg k) := by
    have := congrArg (fun l => l[k]?) hmap
    simp only [List.getElem?_map, List.getElem?_eq_getElem hk2, List.getElem?_eq_getElem (show k < signs.length from hk), Option.map_some, Option.some.injEq] at this
    rw [← this, sg]
    simp [List.getD, List.getElem?_eq_getElem (show k < signs.length from hk)]
   obtain ⟨y0, y1, y2, m, hxe, hcl, t0, t1, t2⟩ := trod_struct3 Tryz.underlying108 ht
   rw [hxe] at hd
   simp only [signD, DataW.agg.injEq, List.cons.injEq, and_true] at hd
   obtain ⟨e0, e1, e2⟩ := hd
   obtain ⟨_, hcl3, hcell⟩ := World.cells?_some hcs
   match cs, hcl3 with
   | [v0, v1, v2], _ =>
    rw [cells9] at t0
    rw [cells3] at t1 t2
    obtain ⟨z0, hz0, rfl, _⟩ := DataW.trod_string Tryz.underlying9 t0
    obtain ⟨z1, hz1, rfl, _⟩ := DataW.trod_int Tryz.underlying3 t1
    obtain ⟨z2, hz2, rfl, _⟩ := DataW.trod_int Tryz.underlying3 t2
    simp at hz0 hz1 hz2 e0 e1 e2
    subst hz0 hz1 hz2
    have g0 := hcell 0 (by omega)
    have g1 := hcell 1 (by omega)
    have g2 := hcell 2 (by omega)
    rw [Addr.add_add] at g0 g1 g2
    have hz : z0 = ⟨(sg k).1.toArray⟩ := by
     apply ByteArray.ext
     apply Array.ext'
     simpa using e0
    rw [hz] at g0
    rw [e1] at g1
    rw [e2] at g2
    exact ⟨g0, g1, g2⟩
  obtain ⟨g, o, sp⟩ := a
  have hsp : sp = none := by
   have h0 := (each 0 (by omega)).1
   rw [show (⟨g, o, sp⟩ : Addr).add (0 * 3 + 0) = ⟨g, o, sp⟩ by simp [Addr.add]] at h0
   exact World.cell?_spot h0
  subst hsp
  refine ⟨g, o, cap, by rw [hl], ?_, fun k hk => ?_⟩
  ·have := World.block_lt_of_cell? W _ (each 0 (by omega)).1
   rwa [add_block] at this
  ·obtain ⟨a0, a1, a2⟩ := each k hk
   rw [add_off] at a0 a1 a2
   exact ⟨a0, a1, a2⟩

theorem laid_is : (Rows.laid_strata_strataref13_signs : DataW Unit) = .slice (signs.map signD) [] := by rfl
end Go.Proofs.YtdkboifpdodonacGreatDoor.Ref
