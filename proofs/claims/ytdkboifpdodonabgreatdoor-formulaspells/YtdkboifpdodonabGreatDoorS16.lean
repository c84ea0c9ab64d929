import Derived.Test.YtdkboifpdodonabGreatDoorS15
set_option linter.unusedSimpArgs false
/-
  FormulaSpells: a text in other spellings.
-/
namespace Go.Proofs.YtdkboifpdodonabGreatDoor.Doc
open Go.RowKit Go.Deep PureCnf PureForm
set_option maxRecDepth 100000

theorem info5R : (Tryz.prog.info? 5).map (fun i => (i.zero, i.size, i.bytes)) = some (some (.int .u8 0), 1, 1) := by kernel_rfl

/-- bytes as cells. -/
def cbR (l : List UInt8) : List Value := l.map fun b => Value.int .u8 b.toNat
theorem cb_lengthR (l : List UInt8) : (cbR l).length = l.length := by simp [cbR]
theorem cb_appendR (l m : List UInt8) : cbR (l ++ m) = cbR l ++ cbR m := by simp [cbR]

/-- the text T is owned there: since W0 nothing below B has turned. -/
def BufR (B : Nat) (T : List UInt8) (W0 : World) (v : Value) (w : World) : Prop := Lib.OwnBuf B 5 v T.length (cbR T) W0 w

theorem BufR.below {B : Nat} {T : List UInt8} {W0 : World} {v : Value} {w w' : World} (h : BufR B T W0 v w) (hb : Below w.heap.size w w') : BufR B T W0 v w' := by
  refine ⟨⟨h.1.1, ?_⟩, h.2.1.trans (hb.mono h.2.2), Nat.le_trans h.2.2 hb.size⟩
  rcases h.1.2 with hn | ⟨g, cap, cur, fz, hv, hB, hg, rest⟩
  · exact .inl hn
  · exact .inr ⟨g, cap, cur, fz, hv, hB, (hb.block g (Array.getElem?_eq_some_iff.1 hg).1).trans hg, rest⟩

theorem BufR.empty {B : Nat} {W0 w : World} (hb : Below B W0 w) (hB : B ≤ w.heap.size) : BufR B [] W0 (.slice none 0 0) w :=
  ⟨⟨rfl, .inl ⟨rfl, rfl⟩⟩, hb, hB⟩
theorem BufR.text {B : Nat} {T : List UInt8} {W0 : World} {v : Value} {w : World} (h : BufR B T W0 v w) : (convert 56 9 v).run Tryz.prog w = .ok (str T) w := by
  rcases h.1.2 with ⟨hn, h0⟩ | ⟨g, cap, cur, fz, hv, hB, hg, hf, hc, hm, hs, ht⟩
  · have : T = [] := List.eq_nil_of_length_eq_zero h0
    subst this
    rw [hn, run_convert_bytes_string w 56 9 5 none 0 0 Tryz.underlying56 Tryz.underlying5 Tryz.underlying9]
    simp [Conv.bytesToString]
    rfl
  · rw [hv]
    refine run_convert_bytes_back (P := Tryz.prog) w 56 9 5 ⟨g, 0, none⟩ cap T Tryz.underlying56 Tryz.underlying5 Tryz.underlying9 (fun j hj => ?_)
    rw [Nat.mul_one] at ht
    have h1 : cur.toList[j]? = (cbR T)[j]? := by rw [← ht, List.getElem?_take_of_lt hj]
    simp [cbR, List.getElem?_eq_getElem hj] at h1
    rw [add_zero_addr, cell_row hg]
    exact h1


theorem app_textR {ops : Array Oper} {rest : List Oper} {o : Oper} {a : Act} {Q : Exit → Act → World → Prop} {w : World} (hgd : o.guard = none) (sl x : Operand)
    (ho : o.op = .call { callee := .builtin .append, args := #[sl, x], argTypes := #[56, 9] })
    (B : Nat) (v : Value) (T D : List UInt8) (hs : a.eval sl = v) (W0 : World) (hb : BufR B T W0 v w) (hx : a.eval x = str D) (hlen : T.length + D.length ≤ 140737488355328)
    (h : ∀ v' w', BufR B (T ++ D) W0 v' w' → wpList Tryz.prog ops Q rest (a.put o.dst v') w') : wpList Tryz.prog ops Q (o :: rest) a w := by
  obtain ⟨i, hi, hz0, hz1, hz2⟩ := info_parts info5R
  refine Lib.wpList_append_text hgd sl x 56 9 ho B 5 i Tryz.underlying56 Tryz.underlying9 hi hz0 hz1 hz2 v T.length (cbR T) hs W0 hb ⟨D.toArray⟩ hx hlen ?_
  intro v' w' h'
  refine h v' w' ?_
  unfold BufR
  rw [List.length_append, cb_appendR]
  exact h'

theorem app_bytesR {ops : Array Oper} {rest : List Oper} {o : Oper} {a : Act} {Q : Exit → Act → World → Prop} {w0 : World} {cs : Array Value} (hgd : o.guard = none) (s x : Operand)
    (ho : o.op = .call { callee := .builtin .append, args := #[s, x], argTypes := #[56, 56] })
    (B : Nat) (v : Value) (T D : List UInt8) (hcs : cs = (cbR D).toArray) (m : Nat) (hm : m = D.length) (hs : a.eval s = v) (W0 : World) (hb : BufR B T W0 v w0) (hx : a.eval x = .slice (some ⟨w0.heap.size, 0, none⟩) m m) (hlen : T.length + D.length ≤ 140737488355328)
    (h : ∀ v' w', BufR B (T ++ D) W0 v' w' → wpList Tryz.prog ops Q rest (a.put o.dst v') w') : wpList Tryz.prog ops Q (o :: rest) a (w0.alloc (.cells cs 5)) := by
  obtain ⟨i, hi, hz0, hz1, hz2⟩ := info_parts info5R
  subst hcs hm
  have hb' := Lib.OwnBuf.alloc hb (.cells (cbR D).toArray 5)
  refine wpList_append_ownF _ hgd s x 56 ho B 5 i (.int .u8 0) 1 1 Tryz.underlying56 hi hz0 hz1 hz2 rfl (by decide) v T.length (cbR T) hs hb'.1 ⟨w0.heap.size, 0, none⟩ D.length D.length (cbR D) hx (by rw [cb_lengthR, Nat.mul_one]) ?_ ?_ (by unfold maxLen; omega) (by omega) hb'.2.2 ?_
  · intro j u hj
    rw [add_zero_addr, cell_row (heap_alloc_new w0 _)]
    simpa using hj
  · intro u hu
    simp only [cbR, List.mem_map] at hu
    obtain ⟨b, _, rfl⟩ := hu
    rfl
  · intro v' w' ho' hg _
    refine h v' w' ?_
    unfold BufR
    rw [List.length_append, cb_appendR]
    exact hb'.grown ho' hg


/-- numbers that can be read there. -/
structure IntsAt (w : World) (sa : Option Addr) (l : List Int) : Prop where
  at_ : ∀ k (hk : k < l.length), ∃ a, sa = some a ∧ a.block < w.heap.size ∧ w.cell? (a.add k) = some (.int .i64 l[k])
theorem IntsAt.read {w : World} {sa : Option Addr} {l : List Int} (h : IntsAt w sa l) {k : Nat} (hk : k < l.length) : ∃ a, sa = some a ∧ a.block < w.heap.size ∧ ∀ W, Below w.heap.size w W → W.cell? (a.add k) = some (.int .i64 l[k]) := by
  obtain ⟨a, e, hb, c⟩ := h.at_ k hk
  exact ⟨a, e, hb, fun W hW => (hW.cell (by rw [add_block]; exact hb)).trans c⟩
theorem and3 (n : Int) : bits .and .i64 n 3 = n % 4 := by
  have h127 : (BitVec.ofInt 64 3).toNat = 2 ^ 2 - 1 := by decide
  have key : (BitVec.ofInt 64 n &&& BitVec.ofInt 64 3).toNat = (n % ((2 ^ 64 : Nat) : Int)).toNat % 2 ^ 2 := by
    rw [BitVec.toNat_and, BitVec.toNat_ofInt, h127, Nat.and_two_pow_sub_one_eq_mod]
  show IntKind.i64.wrap ((BitVec.ofInt 64 n &&& BitVec.ofInt 64 3).toNat : Nat) = n % 4
  rw [key, IntKind.wrap_i64]
  omega

set_option maxHeartbeats 4000000 in
set_option maxRecDepth 100000 in
theorem respelt_any (a : List Atom) (hw : WellA a) (hk : ∀ y ∈ a, AOk y) (s : ByteArray) (hs : s.data.toList = atext a) (hl : s.size ≤ 1048576) (sb : Option Addr) (by_ : List Int) (cb : Nat) (hn : by_.length ≤ 17592186043904) (w : World) (hb : IntsAt w sb by_) :
    Calls Tryz.prog 15 #[.string s, .slice sb by_.length cb] w fun e w' => (∃ t, RAs a t ∧ t.length ≤ 12582912 ∧ e = .returned (str t)) ∧ Below w.heap.size w w' := by
  have HB := hid hb
  have HW := hid hw
  have HK := hid hk
  have HS := hid hs
  clear hb hw hk hs
  go_enter Tryz.func15, Tryz.ntmps15
  go_wp2
  go_loopw [5, 6, 7] (fun bv kv iv W => ∃ (i k : Nat) (t : List UInt8) (re : List Atom), i ≤ s.size ∧ k ≤ i ∧ iv = .int .i64 (i : Int) ∧ kv = .int .i64 (k : Int) ∧ Hid (Gone a i t re ∧ BufR w.heap.size t w bv W)) (fun _ _ iv _ => s.size - (intOf iv).toNat)
  case atStart => exact ⟨0, 0, [], a, Nat.zero_le _, Nat.zero_le _, rfl, rfl, Gone.nil a, BufR.empty (Below.refl _ _) (Nat.le_refl _)⟩
  case round =>
    obtain ⟨i, k, t, re, hi, hki, rfl, rfl, HG⟩ := hrel
    have hlen := HG.out.1.len
    have hsz : s.size = (atext a).length := by rw [← HS.out]; simp
    cases re with
    | nil =>
      have hie : i = s.size := by have := hlen.2; simp [atext] at this; simp [atext] at hsz; omega
      obtain ⟨HR, HT⟩ : Hid (RAs a t) ∧ Hid (BufR w.heap.size t w u5 wr) := ⟨HG.out.1.fin.2, HG.out.2⟩
      have HL : Hid (t.length ≤ 12582912) := by have := hlen.1; show _ ≤ _; omega
      clear HG hlen hsz
      subst hie
      have HTX := HT.out.text
      go_wp2
      go_ret
      exact ⟨⟨t, HR.out, HL.out, rfl⟩, HT.out.2.1⟩
    | cons x re =>
      have hxp : 0 < x.text.length := by
        cases x using Atom.cas with
        | sp => decide
        | tok core kk =>
          rcases HK.out _ HG.out.1.mem with h | h | h
          · obtain ⟨c, t, e, _⟩ := h.2.1
            show 0 < core.length
            rw [e]; simp
          · obtain ⟨c, t, e, _⟩ := h
            show 0 < core.length
            rw [e]; simp
          · obtain ⟨c, e, _⟩ := h
            show 0 < core.length
            rw [e]; simp
      have hilt : i < s.size := by
        have := hlen.2
        have hx : (atext (x :: re)).length = x.text.length + (atext re).length := by simp [atext]
        omega
      clear hlen hsz
      go_upto_if 17 with fail
      go_cut [6, 8] (fun kv xv wx => ∃ (k1 : Nat) (x0 : Int), k1 ≤ i + 1 ∧ kv = .int .i64 (k1 : Int) ∧ xv = .int .i64 x0 ∧ wx = wr)
      case first =>
        by_cases hz : 0 < by_.length
        · have hml := Nat.mod_lt k hz
          obtain ⟨ad, had, _, hc⟩ := HB.out.read (Nat.mod_lt k hz)
          have c1 := hc wr HG.out.2.2.1
          obtain ⟨xx, hxx⟩ : ∃ xx, xx = by_[k % by_.length]'(Nat.mod_lt k hz) := ⟨_, rfl⟩
          rw [← hxx] at c1
          clear hc hxx
          subst had
          go_wp2
          go_meet
          exact ⟨k + 1, xx, by omega, by go_num, rfl, rfl⟩
        · go_wp2
          go_meet
          exact ⟨k, 0, by omega, rfl, rfl, rfl⟩
      case rest =>
        obtain ⟨k1, x0, hk1, rfl, rfl, rfl⟩ := hcut
        obtain ⟨wr, hwr⟩ : ∃ wr, wr = wc := ⟨_, rfl⟩
        subst hwr
        have HSP := hid (spelling_any s i x0 wr hl hilt)
        rw [HS.out] at HSP
        have hhere := HG.out.1.here
        have hmem := HK.out _ HG.out.1.mem
        have hwell := HG.out.1.well HW.out
        have HBF := hid HG.out.2
        have HGN := hid HG.out.1
        have hlen := HG.out.1.len
        clear HG
        cases x using Atom.cas with
        | sp =>
          have h32 : (s[i].toNat : Int) = 32 := by
            have h1 : (s.data.toList.drop i)[0]? = some 32 := by rw [HS.out, hhere]; simp [Atom.text]
            rw [List.getElem?_drop, Nat.add_zero, List.getElem?_eq_getElem (by simpa using hilt)] at h1
            have h2 : s[i] = 32 := Option.some.inj h1
            rw [h2]; rfl
          have HNO := hid (none_head hhere (.inl rfl))
          clear hhere hmem hwell
          have hlt : t.length + 11 ≤ 140737488355328 := by have := hlen.1; omega
          have hx3 : bits BinOp.and IntKind.i64 x0 3 = 0 ∨ bits BinOp.and IntKind.i64 x0 3 = 1 ∨ bits BinOp.and IntKind.i64 x0 3 = 2 ∨ bits BinOp.and IntKind.i64 x0 3 = 3 := by rw [and3]; omega
          have HNX : Hid (∀ o ∈ gaps, Gone a (i + 1) (t ++ o) re) := fun o ho => HGN.out.next (x := .sp) ho (by revert o; decide)
          rcases hx3 with hx3 | hx3 | hx3 | hx3
          · go_wp2_with (first | (have q := HB2.out; clear q; at_builtin; refine app_textR rfl _ _ rfl w.heap.size u5 t [32] rfl w (HB2.out.below ((Below.refl _ _).alloc (Nat.le_refl _) _)) rfl (by show t.length + 1 ≤ _; omega) ?_; intro v3 w3 hb3; have HB3 := hid hb3; clear hb3) | (go_at_call 31; refine Calls.mono HSP.out ?_; rintro e w2 ⟨hso, hb2⟩; obtain rfl : e = .returned (.tuple #[.string ⟨#[]⟩, .int .i64 0]) := (by rcases hso with ⟨p, hp, h1, _⟩ | ⟨_, h⟩; (rw [HNO.out p hp] at h1; cases h1); exact h); have HB2 := hid (HBF.out.below hb2); clear hso hb2))
            exact ⟨⟨i + 1, k1, t ++ [32], re, hilt, hk1, by go_num, rfl, HNX.out _ (by decide), HB3.out⟩, by simp [intOf]; omega⟩
          · go_wp2_with (first | (have q := HB2.out; clear q; at_builtin; refine app_textR rfl _ _ rfl w.heap.size u5 t [9] rfl w (HB2.out.below ((Below.refl _ _).alloc (Nat.le_refl _) _)) rfl (by show t.length + 1 ≤ _; omega) ?_; intro v3 w3 hb3; have HB3 := hid hb3; clear hb3) | (go_at_call 31; refine Calls.mono HSP.out ?_; rintro e w2 ⟨hso, hb2⟩; obtain rfl : e = .returned (.tuple #[.string ⟨#[]⟩, .int .i64 0]) := (by rcases hso with ⟨p, hp, h1, _⟩ | ⟨_, h⟩; (rw [HNO.out p hp] at h1; cases h1); exact h); have HB2 := hid (HBF.out.below hb2); clear hso hb2))
            exact ⟨⟨i + 1, k1, t ++ [9], re, hilt, hk1, by go_num, rfl, HNX.out _ (by decide), HB3.out⟩, by simp [intOf]; omega⟩
          · go_wp2_with (first | (have q := HB2.out; clear q; at_builtin; refine app_textR rfl _ _ rfl w.heap.size u5 t [32, 13, 10, 32] rfl w (HB2.out.below ((Below.refl _ _).alloc (Nat.le_refl _) _)) rfl (by show t.length + 4 ≤ _; omega) ?_; intro v3 w3 hb3; have HB3 := hid hb3; clear hb3) | (go_at_call 31; refine Calls.mono HSP.out ?_; rintro e w2 ⟨hso, hb2⟩; obtain rfl : e = .returned (.tuple #[.string ⟨#[]⟩, .int .i64 0]) := (by rcases hso with ⟨p, hp, h1, _⟩ | ⟨_, h⟩; (rw [HNO.out p hp] at h1; cases h1); exact h); have HB2 := hid (HBF.out.below hb2); clear hso hb2))
            exact ⟨⟨i + 1, k1, t ++ [32, 13, 10, 32], re, hilt, hk1, by go_num, rfl, HNX.out _ (by decide), HB3.out⟩, by simp [intOf]; omega⟩
          · go_wp2_with (first | (have q := HB2.out; clear q; at_builtin; refine app_textR rfl _ _ rfl w.heap.size u5 t [32, 35, 32, 115, 111, 58, 32, 40, 32, 255, 10] rfl w (HB2.out.below ((Below.refl _ _).alloc (Nat.le_refl _) _)) rfl (by show t.length + 11 ≤ _; omega) ?_; intro v3 w3 hb3; have HB3 := hid hb3; clear hb3) | (go_at_call 31; refine Calls.mono HSP.out ?_; rintro e w2 ⟨hso, hb2⟩; obtain rfl : e = .returned (.tuple #[.string ⟨#[]⟩, .int .i64 0]) := (by rcases hso with ⟨p, hp, h1, _⟩ | ⟨_, h⟩; (rw [HNO.out p hp] at h1; cases h1); exact h); have HB2 := hid (HBF.out.below hb2); clear hso hb2))
            exact ⟨⟨i + 1, k1, t ++ [32, 35, 32, 115, 111, 58, 32, 40, 32, 255, 10], re, hilt, hk1, by go_num, rfl, HNX.out _ (by decide), HB3.out⟩, by simp [intOf]; omega⟩
        | tok core kk =>
          rcases hmem with hkp | hkw | hks
          · have HKP := hid hkp
            have HHERE := hid hhere
            obtain ⟨n, hn0⟩ : ∃ n, n = core.length := ⟨_, rfl⟩
            have hn1 : 0 < n := by rw [hn0]; exact hxp
            have hdl : (s.data.toList.drop i).length = core.length + (atext re).length := by rw [HS.out, hhere]; simp [Atom.text]
            have hin : i + n ≤ s.size := by
              have := hdl
              simp at this
              omega
            have h32 : ((s[i].toNat : Int) == 32) = false := by
              obtain ⟨c, r, ec, hc⟩ := HKP.out.2.1
              have h0 : s[i] = c := by
                have h1 : (s.data.toList.drop i)[0]? = some c := by rw [HS.out, hhere]; simp [Atom.text, ec]
                rw [List.getElem?_drop, Nat.add_zero, List.getElem?_eq_getElem (by simpa using hilt)] at h1
                exact Option.some.inj h1
              rw [h0, beq_eq_false_iff_ne]
              intro h
              exact hc (UInt8.toNat_inj.1 (by have : (32 : UInt8).toNat = 32 := rfl; omega))
            have hlt : t.length ≤ 12582912 := by have := hlen.1; omega
            have HNA : Hid (∀ p ∈ pairsW, p.1 = core → Gone a (i + n) (t ++ p.2 ++ [32]) re) := fun p hp e => by
              have h2 := (pairs_len hp).2.2
              have := HGN.out.next (ra_alt_sp HKP.out hp e) (by simp [Atom.text]; omega)
              rw [List.append_assoc, hn0]; exact this
            have HNB : Hid (∀ p ∈ pairsW, p.1 = core → p.2 ≠ [48] → p.2 ≠ [49] → Gone a (i + n) (t ++ p.2) re) := fun p hp e h0 h1 => by
              have h2 := (pairs_len hp).2.2
              have := HGN.out.next (ra_alt HKP.out hp e h0 h1) (by simp [Atom.text]; omega)
              rw [hn0]; exact this
            have HNC : Hid (Gone a (i + n) (t ++ core) re) := by
              have := HGN.out.next (o := core) (ra_core (core := core) (k := kk)) (by simp [Atom.text]; omega)
              rw [hn0]; exact this
            have HEX : Hid (s.extract i (i + n) = ⟨core.toArray⟩) := by
              show _ = _
              rw [extract_str, List.drop_take, Nat.add_sub_cancel_left, HS.out, hhere, hn0]
              simp [Atom.text]
            obtain ⟨c6, hc6⟩ : ∃ c, (bits BinOp.and IntKind.i64 x0 6 != 0) = c := ⟨_, rfl⟩
            have HN0 := hid hn0
            clear hkp hhere hwell hn0 hlen hxp hdl
            cases c6 with
            | true =>
              go_wp2_with (first | (have q := HB3.out; clear q; at_builtin; refine app_bytesR (cs := #[.int .u8 32]) rfl _ _ rfl w.heap.size v3 _ [32] rfl 1 rfl rfl w HB3.out rfl (by have := HAL.out; simp at this ⊢; omega) ?_; intro v4 w4 hb4; have HB4 := hid hb4; clear hb4) | (have q := HB2.out; clear q; at_builtin; refine app_textR rfl _ _ rfl w.heap.size u5 t alt rfl w HB2.out rfl (by have := HAL.out; omega) ?_; intro v3 w3 hb3; have HB3 := hid hb3; clear hb3) | (go_at_call 31; refine Calls.mono HSP.out ?_; rintro e w2 ⟨hso, hb2⟩; obtain ⟨p, hp, he1, he2⟩ : ∃ p ∈ pairsW, p.1 = core ∧ e = .returned (.tuple #[str p.2, .int .i64 (p.1.length : Int)]) := (by rcases hso with ⟨p, hp, h1, h2⟩ | ⟨h1, _⟩; (exact ⟨p, hp, kp_only HKP.out HHERE.out hp h1, h2⟩); (obtain ⟨p, hp, h2⟩ := kp_some HKP.out HHERE.out; rw [h1 p hp] at h2; cases h2)); obtain ⟨alt, halt⟩ : ∃ alt, alt = p.2 := ⟨_, rfl⟩; have HAL : Hid (alt.length ≤ 3) := (by rw [halt]; exact (pairs_len hp).2.2); rw [he1, ← halt, ← HN0.out] at he2; subst he2; have HP := hid hp; have HE1 := hid he1; have HALT := hid halt; have HB2 := hid (HBF.out.below hb2); clear hso hb2 hp he1 halt))
              all_goals first
                | exact ⟨⟨i + n, k1, t ++ alt ++ [32], re, hin, by omega, by go_num, rfl, by rw [HALT.out]; exact HNA.out p HP.out HE1.out, HB4.out⟩, by simp [intOf]; omega⟩
                | exact ⟨⟨i + n, k1, t ++ alt, re, hin, by omega, by go_num, rfl, by rw [HALT.out]; exact HNB.out p HP.out HE1.out (by rw [← HALT.out]; assumption) (by rw [← HALT.out]; assumption), HB3.out⟩, by simp [intOf]; omega⟩
            | false =>
              go_wp2_with (first | (have q := HB2.out; clear q; at_builtin; refine app_textR rfl _ _ rfl w.heap.size u5 t core rfl w HB2.out (by show Value.string (s.extract i (i + n)) = _; rw [HEX.out]) (by have := HN0.out; omega) ?_; intro v3 w3 hb3; have HB3 := hid hb3; clear hb3) | (go_at_call 31; refine Calls.mono HSP.out ?_; rintro e w2 ⟨hso, hb2⟩; obtain ⟨p, hp, he1, he2⟩ : ∃ p ∈ pairsW, p.1 = core ∧ e = .returned (.tuple #[str p.2, .int .i64 (p.1.length : Int)]) := (by rcases hso with ⟨p, hp, h1, h2⟩ | ⟨h1, _⟩; (exact ⟨p, hp, kp_only HKP.out HHERE.out hp h1, h2⟩); (obtain ⟨p, hp, h2⟩ := kp_some HKP.out HHERE.out; rw [h1 p hp] at h2; cases h2)); obtain ⟨alt, halt⟩ : ∃ alt, alt = p.2 := ⟨_, rfl⟩; rw [he1, ← halt, ← HN0.out] at he2; subst he2; have HB2 := hid (HBF.out.below hb2); clear hso hb2 hp he1 halt))
              exact ⟨⟨i + n, k1, t ++ core, re, hin, by omega, by go_num, rfl, HNC.out, HB3.out⟩, by simp [intOf]; omega⟩
          · obtain ⟨c, r, ec, hc, hall⟩ := hkw
            obtain ⟨n, hn0⟩ : ∃ n, n = core.length := ⟨_, rfl⟩
            have hn1 : 0 < n := by rw [hn0]; exact hxp
            have hdl : (s.data.toList.drop i).length = core.length + (atext re).length := by rw [HS.out, hhere]; simp [Atom.text]
            have hin : i + n ≤ s.size := by
              have := hdl
              simp at this
              omega
            have hat : ∀ j, j < n → ∀ h : i + j < s.size, core[j]? = some (s[i + j]'h) := fun j hj h => by
              have h1 : (s.data.toList.drop i)[j]? = core[j]? := by rw [HS.out, hhere]; simp only [Atom.text]; rw [List.getElem?_append_left (by omega)]
              rw [← h1, List.getElem?_drop, List.getElem?_eq_getElem (by simpa using h)]
              rfl
            have h0 : s[i] = c := by
              have := hat 0 hn1 hilt
              simp only [ec, List.getElem?_cons_zero, Option.some.injEq] at this
              exact this.symm
            have h97 : 97 ≤ (s[i].toNat : Int) := by rw [h0]; rcases hc with rfl | rfl <;> decide
            have h122 : (s[i].toNat : Int) ≤ 122 := by rw [h0]; rcases hc with rfl | rfl <;> decide
            have h32 : ((s[i].toNat : Int) == 32) = false := by rw [beq_eq_false_iff_ne]; omega
            have HNO := hid (none_head (s := atext a) (i := i) (t := r ++ atext re) (c := c) (by rw [hhere]; simp [Atom.text, ec]) (by rcases hc with h | h; exact .inr (.inl h); exact .inr (.inr (.inl h))))
            have HLD : Hid (∀ j, j < n → ∀ h : i + j < s.size, (97 ≤ ((s[i + j]'h).toNat : Int) ∧ ((s[i + j]'h).toNat : Int) ≤ 122) ∨ (¬ 97 ≤ ((s[i + j]'h).toNat : Int) ∧ 48 ≤ ((s[i + j]'h).toNat : Int) ∧ ((s[i + j]'h).toNat : Int) ≤ 57)) := fun j hj h => by
              have h1 := hat j hj h
              rw [List.all_eq_true] at hall
              have h2 := hall _ (List.mem_of_getElem? h1)
              simp [ldB, lowB, digB] at h2
              omega
            have HEND : Hid (∀ h : i + n < s.size, (¬ 97 ≤ ((s[i + n]'h).toNat : Int) ∧ ¬ 48 ≤ ((s[i + n]'h).toNat : Int)) ∨ (¬ 97 ≤ ((s[i + n]'h).toNat : Int) ∧ 48 ≤ ((s[i + n]'h).toNat : Int) ∧ ¬ ((s[i + n]'h).toNat : Int) ≤ 57) ∨ (97 ≤ ((s[i + n]'h).toNat : Int) ∧ ¬ ((s[i + n]'h).toNat : Int) ≤ 122 ∧ 48 ≤ ((s[i + n]'h).toNat : Int) ∧ ¬ ((s[i + n]'h).toNat : Int) ≤ 57)) := fun h => by
              have hno : noAln (atext re) := by
                rcases hwell.1 with hs | ⟨_, hs⟩
                · exfalso
                  obtain ⟨c2, t2, e2, h2⟩ := sign_aln hs
                  rw [ec] at e2
                  cases e2
                  rcases hc with rfl | rfl <;> revert h2 <;> decide
                · exact hs
              have h1 : (atext re).head? = some (s[i + n]'h) := by
                have h2 : (s.data.toList.drop i)[n]? = (atext re)[0]? := by rw [HS.out, hhere]; simp only [Atom.text]; rw [List.getElem?_append_right (by omega), hn0, Nat.sub_self]
                rw [List.head?_eq_getElem?, ← h2, List.getElem?_drop, List.getElem?_eq_getElem (by simpa using h)]
                rfl
              have h3 := hno _ h1
              simp [alnB, letB, digB] at h3
              omega
            have hlt : t.length ≤ 12582912 := by have := hlen.1; omega
            have HNC : Hid (Gone a (i + n) (t ++ core) re) := by
              have := HGN.out.next (o := core) (ra_core (core := core) (k := kk)) (by simp [Atom.text]; omega)
              rw [hn0]; exact this
            have HTK : Hid (∀ j, j < n → ∀ h : i + j < s.size, core.take (j + 1) = core.take j ++ [s[i + j]'h]) := fun j hj h => by
              have h1 := hat j hj h
              have hj2 : j < core.length := by omega
              rw [take_snoc _ j hj2]
              rw [List.getElem?_eq_getElem hj2] at h1
              rw [Option.some.inj h1]
            have HN0 := hid hn0
            clear hhere hwell hn0 hlen hxp hdl hat h0 hc hall
            go_wp2_with (first | (go_at_call 31; refine Calls.mono HSP.out ?_; rintro e w2 ⟨hso, hb2⟩; obtain rfl : e = .returned (.tuple #[.string ⟨#[]⟩, .int .i64 0]) := (by rcases hso with ⟨p, hp, h1, _⟩ | ⟨_, h⟩; (rw [HNO.out p hp] at h1; cases h1); exact h); have HB2 := hid (HBF.out.below hb2); clear hso hb2))
            go_loopw [5, 7] (fun bv iv W => ∃ j : Nat, j ≤ n ∧ iv = .int .i64 ((i + j : Nat) : Int) ∧ Hid (BufR w.heap.size (t ++ core.take j) w bv W)) (fun _ iv _ => s.size - (intOf iv).toNat)
            case atStart => exact ⟨0, Nat.zero_le _, rfl, by rw [List.take_zero, List.append_nil]; exact HB2.out⟩
            case round =>
              obtain ⟨j, hj, rfl, HBJ⟩ := hrel
              by_cases hjn : j < n
              · have hjs : i + j < s.size := by omega
                have hld := HLD.out j hjn hjs
                have htk := HTK.out j hjn hjs
                have HT2 : Hid (t ++ core.take (j + 1) = (t ++ core.take j) ++ [s[i + j]]) := by show _ = _; rw [htk, List.append_assoc]
                have HL2 : Hid ((t ++ core.take j).length + 1 ≤ 140737488355328) := by show _ ≤ _; simp; omega
                clear htk
                obtain ⟨T, hT⟩ : ∃ T, T = t ++ core.take j := ⟨_, rfl⟩
                rw [← hT] at HT2 HL2 HBJ
                clear hT
                rcases hld with ⟨g1, g2⟩ | ⟨g0, g1, g2⟩
                all_goals
                  go_wp2_with (first | (have q := HBJ.out; clear q; at_builtin; refine app_bytesR (cs := #[.int .u8 (s[i + j].toNat : Int)]) rfl _ _ rfl w.heap.size _ T [s[i + j]] rfl 1 rfl rfl w HBJ.out rfl HL2.out ?_; intro v3 w3 hb3; have HB3 := hid hb3; clear hb3))
                  exact ⟨⟨j + 1, hjn, by go_num, by rw [HT2.out]; exact HB3.out⟩, by simp [intOf]; omega⟩
              · obtain rfl : j = n := by omega
                rw [List.take_of_length_le (by have := HN0.out; omega)] at HBJ
                by_cases hend : i + j < s.size
                · rcases HEND.out hend with ⟨g0, g1⟩ | ⟨g0, g1, g2⟩ | ⟨g0, g1, g2, g3⟩
                  all_goals
                    go_wp2
                    exact ⟨⟨i + j, k1, t ++ core, re, hin, by omega, by go_num, rfl, HNC.out, HBJ.out⟩, by simp [intOf]; omega⟩
                · go_wp2
                  exact ⟨⟨i + j, k1, t ++ core, re, hin, by omega, by go_num, rfl, HNC.out, HBJ.out⟩, by simp [intOf]; omega⟩
          · obtain ⟨c, ec, hc⟩ := hks
            subst ec
            have h0 : s[i] = c := by
              have h1 : (s.data.toList.drop i)[0]? = some c := by rw [HS.out, hhere]; simp [Atom.text]
              rw [List.getElem?_drop, Nat.add_zero, List.getElem?_eq_getElem (by simpa using hilt)] at h1
              exact Option.some.inj h1
            have HNO := hid (none_head (s := atext a) (i := i) (t := atext re) (c := c) (by rw [hhere]; simp [Atom.text]) (by rcases hc with h | h | h | h; exact .inr (.inr (.inr (.inl h))); exact .inr (.inr (.inr (.inr (.inl h)))); exact .inr (.inr (.inr (.inr (.inr (.inl h))))); exact .inr (.inr (.inr (.inr (.inr (.inr h)))))))
            have h97 : ¬ 97 ≤ (s[i].toNat : Int) := by rw [h0]; rcases hc with rfl | rfl | rfl | rfl <;> decide
            have h32 : ((s[i].toNat : Int) == 32) = false := by rw [h0]; rcases hc with rfl | rfl | rfl | rfl <;> decide
            have hlt : t.length ≤ 12582912 := by have := hlen.1; omega
            have HN1 : Hid (Gone a (i + 1) (t ++ [s[i]]) re) := by
              have := HGN.out.next (o := [c]) (ra_core (core := [c]) (k := kk)) (by simp [Atom.text])
              rw [h0]; exact this
            have HN2 : Hid (Gone a (i + 1) (t ++ [s[i]] ++ [32]) re) := by
              have := HGN.out.next (o := [c] ++ [32]) (ra_core_sp (core := [c]) (k := kk)) (by simp [Atom.text])
              rw [h0, List.append_assoc]; exact this
            clear hhere hwell hlen hxp h0 hc
            go_wp2_with (first | (have q := HB3.out; clear q; at_builtin; refine app_bytesR (cs := #[.int .u8 32]) rfl _ _ rfl w.heap.size v3 _ [32] rfl 1 rfl rfl w HB3.out rfl (by simp; omega) ?_; intro v4 w4 hb4; have HB4 := hid hb4; clear hb4) | (have q := HB2.out; clear q; at_builtin; refine app_bytesR (cs := #[.int .u8 (s[i].toNat : Int)]) rfl _ _ rfl w.heap.size u5 t [s[i]] rfl 1 rfl rfl w HB2.out rfl (by simp; omega) ?_; intro v3 w3 hb3; have HB3 := hid hb3; clear hb3) | (go_at_call 31; refine Calls.mono HSP.out ?_; rintro e w2 ⟨hso, hb2⟩; obtain rfl : e = .returned (.tuple #[.string ⟨#[]⟩, .int .i64 0]) := (by rcases hso with ⟨p, hp, h1, _⟩ | ⟨_, h⟩; (rw [HNO.out p hp] at h1; cases h1); exact h); have HB2 := hid (HBF.out.below hb2); clear hso hb2))
            all_goals first
              | exact ⟨⟨i + 1, k1, t ++ [s[i]] ++ [32], re, hilt, hk1, by go_num, rfl, HN2.out, HB4.out⟩, by simp [intOf]; omega⟩
              | exact ⟨⟨i + 1, k1, t ++ [s[i]], re, hilt, hk1, by go_num, rfl, HN1.out, HB3.out⟩, by simp [intOf]; omega⟩
end Go.Proofs.YtdkboifpdodonabGreatDoor.Doc
/-
  Numbers that came in.
-/

namespace Go.Proofs.YtdkboifpdodonabGreatDoor.Doc
open Go.ChangeShapes Go.WideShapes Go.ChangeAt Go.RowKit Go.Deep PureCnf PureForm
set_option maxRecDepth 100000
theorem bytesI : Tryz.prog.bytesOf 3 = 8 := by kernel_rfl

section
variable {H : Type} {enc : TypeId × Value → H} {W : World} {spare : Nat → Bool} {held : Bool}

/-- numbers that came in. -/
theorem open_nums {v : Value} {d : DataW H} {ps : List MemPlace} {base : Nat} (hval : Value.okWide Tryz.prog W .any base 36 v) (h : DataW.Trod enc Tryz.prog W 0 spare held 36 v d ps) :
    ∃ (sa : Option Addr) (ca : Nat) (l : List Int), v = .slice sa l.length ca ∧ IntsAt W sa l ∧
      ∀ {ts : List TypeId} {ds : List (DataW H)} {j : Nat}, (DataW.weightsEach Tryz.prog ts ds).all (· ≤ reachBytes) = true → ts[j]? = some 36 → ds[j]? = some d → l.length ≤ 17592186043904 := by
  obtain ⟨a0, len, cap, rfl⟩ := okWide_slice Tryz.underlying36 hval
  obtain ⟨fuel, hf⟩ := h
  rcases open_ints Tryz.underlying36 Tryz.underlying3 cells3 hf with ⟨hcs, hx⟩ | ⟨a, len', cap', zs, hcs, _, hl, hm, hz, hx, hcell, hwz⟩
  · simp [Value.cells] at hcs
    obtain ⟨rfl, rfl, rfl⟩ := hcs
    exact ⟨none, 0, [], rfl, ⟨fun k hk => by simp at hk⟩, fun _ _ _ => Nat.zero_le _⟩
  · simp [Value.cells] at hcs
    obtain ⟨rfl, rfl, rfl⟩ := hcs
    obtain ⟨rfl, -⟩ := Prod.mk.inj hx
    have hlz : len ≤ zs.length := by rw [hz]; split <;> omega
    have hlen : (zs.take len).length = len := by simp [hlz]
    refine ⟨some a, cap, zs.take len, by rw [hlen], ⟨fun k hk => ?_⟩, fun {ts ds j} hsz ht hd => ?_⟩
    · have hk' : k < len := by simpa [hlen] using hk
      have h1 := hcell k (by omega)
      have h2 : W.cell? (a.add k) = some (.int .i64 (zs.take len)[k]) := by
        rw [h1]
        simp [List.getD, List.getElem?_eq_getElem (show k < zs.length by omega)]
      have h3 := World.block_lt_of_cell? W _ h2
      rw [add_block] at h3
      exact ⟨a, rfl, h3, h2⟩
    · rw [hlen]
      have hr : reachBytes = 140737488351232 := by decide
      have hw : ((lits (H := H) IntKind.i64 (List.take len zs)).length + (lits (H := H) IntKind.i64 (List.drop len zs)).length) * 8 ∈ (DataW.slice (lits IntKind.i64 (List.take len zs)) (lits (H := H) IntKind.i64 (List.drop len zs))).weights Tryz.prog 36 := by
        simp [DataW.weights, Tryz.underlying36, bytesI]
      have h2 := List.all_eq_true.1 hsz _ (DataW.weights_mem_each ht hd _ hw)
      have h3 : ((lits (H := H) IntKind.i64 (List.take len zs)).length + (lits (H := H) IntKind.i64 (List.drop len zs)).length) * 8 ≤ reachBytes := by simpa using h2
      simp only [lits, List.length_map, List.length_take, List.length_drop] at h3
      omega
end
end Go.Proofs.YtdkboifpdodonabGreatDoor.Doc
/-
  FormulaSpells: the law over contracts of the program's Parse and Print.
-/
namespace Go.Proofs.YtdkboifpdodonabGreatDoor.Doc
open Go.RowKit Go.Deep PureCnf PureForm
set_option maxRecDepth 100000

theorem IntsAt.below {w W : World} {sa : Option Addr} {l : List Int} (h : IntsAt w sa l) (hW : Below w.heap.size w W) : IntsAt W sa l :=
  ⟨fun k hk => by
    obtain ⟨a, e, hb, c⟩ := h.at_ k hk
    exact ⟨a, e, Nat.lt_of_lt_of_le hb hW.size, (hW.cell (by rw [add_block]; exact hb)).trans c⟩⟩

theorem printF_len {f : List Nd} {T : List UInt8} (hp : printF f = .ok T) : T.length ≤ 1048576 := by
  unfold printF at hp
  split at hp
  · split at hp
    · split at hp
      · cases hp; assumption
      · cases hp
    · cases hp
  · cases hp
theorem printF_code {f : List Nd} {n : Nat} (hp : printF f = .error n) : 0 < n ∧ n < 1000 := by
  unfold printF at hp
  split at hp
  · split at hp
    · split at hp
      · cases hp
      · cases hp; decide
    · cases hp; decide
  · cases hp; decide

set_option maxHeartbeats 1000000 in
set_option maxRecDepth 100000 in
theorem spells_law {K : World → Prop} (hP : ParseC K 13) (hR : PrintK K 11) (f : List Nd) (sa : Option Addr) (ca : Nat) (sb : Option Addr) (by_ : List Int) (cb : Nat) (w : World) (hk : K w) (hn : NodesAt w sa f) (hl : f.length ≤ 8796093022208) (hb : IntsAt w sb by_) (hbl : by_.length ≤ 17592186043904) :
    Calls Tryz.prog 4 #[.slice sa f.length ca, .slice sb by_.length cb] w fun e w' => e = .returned (.bool true) ∧ Below w.heap.size w w' := by
  have HA := hid (alive_any hP hR w hk)
  cases hp : printF f with
  | error n =>
    have H1 : Hid (∀ (W : World), Below w.heap.size w W → Calls Tryz.prog 10 #[.slice sa f.length ca] W fun e w' => e = .returned (.tuple #[.string ⟨#[]⟩, .int .i64 (n : Int)]) ∧ Below W.heap.size W w') := fun W hW => by
      have := print_any f sa ca W (hn.below hW) (by omega)
      rw [hp] at this
      exact this
    obtain ⟨n0, n1⟩ := printF_code hp
    have hne : ((n : Int) != 0) = true := by simp; omega
    clear hP hR hk hn hp hb
    go_enter Tryz.func4, Tryz.ntmps4
    go_wp2_with (first
      | (have q := B1; clear q; go_at_call 10; refine (H1.out _ B1.out).mono ?_; rintro e w2 ⟨rfl, b2⟩; have B2 := hid (B1.out.trans (b2.mono B1.out.size)); clear b2)
      | (go_at_call 9; refine HA.out.mono ?_; rintro e w1 ⟨rfl, b1⟩; have B1 := hid b1; clear b1))
    go_ret
    exact ⟨rfl, B2.out⟩
  | ok T =>
    obtain ⟨a, ea, hwa, hok, hsp⟩ := spells2 hp
    have hT := printF_len hp
    have H1 := hid (fun (W : World) (hW : Below w.heap.size w W) => print_ok print_any hp sa ca W (hn.below hW) (by omega))
    have H2 := hid (fun (W : World) (hW : Below w.heap.size w W) => respelt_any a hwa hok ⟨T.toArray⟩ (by rw [ea]) (by show T.toArray.size ≤ _; simpa using hT) sb by_ cb hbl W (hb.below hW))
    have H3 := hid (fun (W : World) (t : List UInt8) (hr : RAs a t) (ht : t.length ≤ 1048576) (hW : Below w.heap.size w W) => parse_ok hP (hsp t hr ht) W (hP.keep _ _ hk hW) ht)
    have HS := hid (fun (W : World) (sb : Option Addr) (cb : Nat) (hW : Below w.heap.size w W) (hb : NodesAt W sb f) => same_true f sa sb ca cb W hl (hn.below hW) hb)
    clear hP hR hk hn hp hb hwa hok hsp ea
    go_enter Tryz.func4, Tryz.ntmps4
    go_wp2_with (first
      | (have q := B5; clear q; go_at_call 14; refine (HS.out _ _ _ (B5.out.alloc (Nat.le_trans B5.out.size (by simp)) _) (N5.out.below ((Below.refl _ _).alloc (Nat.le_refl _) _))).mono ?_; rintro e w6 ⟨rfl, b6⟩; have B6 := hid b6; clear b6)
      | (have q := B3; clear q; go_at_call 13; refine (H3.out _ t HRA.out (by simp at *; omega) B3.out).mono ?_; rintro e w5 ⟨⟨sb, cb, rfl, n5⟩, b5⟩; have N5 := hid n5; have B5 := hid (B3.out.trans (b5.mono B3.out.size)); clear b5 n5)
      | (have q := B2; clear q; go_at_call 15; refine (H2.out _ B2.out).mono ?_; rintro e w3 ⟨⟨t, hra, htl, rfl⟩, b3⟩; have HRA := hid hra; have B3 := hid (B2.out.trans (b3.mono B2.out.size)); clear b3 hra)
      | (have q := B1; clear q; go_at_call 10; refine (H1.out _ B1.out).mono ?_; rintro e w2 ⟨rfl, b2⟩; have B2 := hid (B1.out.trans (b2.mono B1.out.size)); clear b2)
      | (go_at_call 9; refine HA.out.mono ?_; rintro e w1 ⟨rfl, b1⟩; have B1 := hid b1; clear b1))
    · go_ret
      exact ⟨rfl, B3.out⟩
    · go_ret
      have hb5 : Below w.heap.size w (w5.alloc (Obj.cells #[.int .i64 0, .int .i64 0, .int .i64 0] 31)) := B5.out.alloc B5.out.size _
      exact ⟨rfl, hb5.trans (B6.out.mono hb5.size)⟩
end Go.Proofs.YtdkboifpdodonabGreatDoor.Doc
/-
  FormulaSpells: the row and its card.
-/

namespace Go.Proofs.YtdkboifpdodonabGreatDoor
open Go.ChangeShapes Go.WideShapes Go.ChangeAt Go.RowKit Go.Deep PureCnf PureForm

set_option maxRecDepth 100000 in
theorem formulaSpells_contract (H : Type) (enc : TypeId × Value → H) (W : World) (base : Nat) (args : Array Value) (ds gs : List (DataW H)) (before : List MemPlace)
    (hval : ∀ (j : Nat) t v, Tryz.f4.params[j]? = some t → args[j]? = some v → Value.okWide Tryz.prog W .any base t v)
    (hW : DataW.Whole enc Tryz.prog Tryz.f4.params.toList Rows.formulaSpellsSpec.vars false W args.toList ds gs before)
    (hsz0 : (DataW.weightsEach Tryz.prog (Tryz.f4.params.toList ++ (OpenSpec.ofChange Rows.formulaSpellsSpec).bare.plain.varTypes Tryz.prog) (ds ++ gs)).all (· ≤ reachBytes) = true) (hL : laidMetH Tryz.prog Rows.formulaSpellsRow.laid W) :
    Calls Tryz.prog 4 args W fun e W' => ∃ v, e = .returned v ∧ Rows.formulaSpellsSpec.post enc Tryz.prog Tryz.f4 false true false false W args v W' := by
  have hsz := hsz0
  clear hsz0
  have hW' := hW
  obtain ⟨p, q, hA0, hV, rfl, hfz, hnd⟩ := hW
  have hA : DataW.TrodAll enc Tryz.prog W 0 (fun _ => true) true Tryz.f4.params.toList args.toList ds p := hA0
  rw [Tryz.params4] at hA hval hsz
  obtain ⟨v0, vs0, d0, ds0, p0, q0, hargs0, rfl, rfl, h0, r0⟩ := trodAll_cons hA
  obtain ⟨v1, vs1, d1, ds1, p1, q1, rfl, rfl, rfl, h1, r1⟩ := trodAll_cons r0
  obtain ⟨rfl, rfl, rfl⟩ := trodAll_nil r1
  obtain rfl : args = #[v0, v1] := by cases args; simp_all
  obtain ⟨rfl, rfl⟩ := trodVars_none hV
  clear hA0
  simp only [List.append_nil] at hW'
  have hlt0 : ∀ x ∈ p0, x.block < W.heap.size := fun x hx => by simpa using hW'.lt x (by simp [hx])
  obtain ⟨sa0, ca0, l0, rfl, hn0, _, hsize0⟩ := Doc.open_nodes (hval 0 22 v0 rfl rfl) h0
  have hl0 := hsize0 (j := 0) hsz rfl rfl
  have hlt1 : ∀ x ∈ p1, x.block < W.heap.size := fun x hx => by simpa using hW'.lt x (by simp [hx])
  obtain ⟨sa1, ca1, l1, rfl, hn1, hsize1⟩ := Doc.open_nums (hval 1 36 v1 rfl rfl) h1
  have hl1 := hsize1 (j := 1) hsz rfl rfl
  refine (Doc.spells_law parseK printK l0 sa0 ca0 sa1 l1 ca1 W (met hL) hn0 (by omega) hn1 hl1).mono fun e W' ⟨he, hnx⟩ => ?_
  subst he
  refine ⟨_, rfl, _, _, _, [], _, [], hW', ?_, trodAll_mk2 (Below.trod laidOut (by kernel_rfl) (of_decide_eq_true (by kernel_rfl)) h0 hnx hlt0) (Below.trod laidOut (by kernel_rfl) (of_decide_eq_true (by kernel_rfl)) h1 hnx hlt1), rfl, hnx.frame _, fun h => by cases h⟩
  exact trodAll_mk1 (shut_bool Tryz.underlying4 _)

set_option maxRecDepth 100000 in
theorem formulaSpells_lifted (os : Os) (started : os.Started) (H : Type) (enc : TypeId × Value → H) (F : Stop.Interp) :
    ReturnsInHanded {} Tryz.checked os 4 .any ((OpenSpec.ofChange Rows.formulaSpellsSpec).preRow enc Tryz.prog Tryz.f4 Rows.formulaSpellsRow.domain false Rows.formulaSpellsRow.laid) (((OpenSpec.ofChange Rows.formulaSpellsSpec).at F).post enc Tryz.prog Tryz.f4 false true false false) := by
  obtain ⟨lw, hlw⟩ : ∃ lw : World, lw = (fun w0 : World => { w0 with heap := (((((w0.heap.modify 5 fun
      | .cells _ t frozen => .cells #[.int .u8 0, .int .u8 1, .int .u8 28, .int .u8 2, .int .u8 29, .int .u8 14, .int .u8 24, .int .u8 3, .int .u8 30, .int .u8 22, .int .u8 20, .int .u8 15, .int .u8 25, .int .u8 17, .int .u8 4, .int .u8 8, .int .u8 31, .int .u8 27, .int .u8 13, .int .u8 23, .int .u8 21, .int .u8 19, .int .u8 16, .int .u8 7, .int .u8 26, .int .u8 12, .int .u8 18, .int .u8 6, .int .u8 11, .int .u8 5, .int .u8 10, .int .u8 9] t frozen
      | o => o).modify 6 fun
      | .cells _ t frozen => .cells #[.int .u8 0, .int .u8 1, .int .u8 56, .int .u8 2, .int .u8 57, .int .u8 49, .int .u8 28, .int .u8 3, .int .u8 61, .int .u8 58, .int .u8 42, .int .u8 50, .int .u8 38, .int .u8 29, .int .u8 17, .int .u8 4, .int .u8 62, .int .u8 47, .int .u8 59, .int .u8 36, .int .u8 45, .int .u8 43, .int .u8 51, .int .u8 22, .int .u8 53, .int .u8 39, .int .u8 33, .int .u8 30, .int .u8 24, .int .u8 18, .int .u8 12, .int .u8 5, .int .u8 63, .int .u8 55, .int .u8 48, .int .u8 27, .int .u8 60, .int .u8 41, .int .u8 37, .int .u8 16, .int .u8 46, .int .u8 35, .int .u8 44, .int .u8 21, .int .u8 52, .int .u8 32, .int .u8 23, .int .u8 11, .int .u8 54, .int .u8 26, .int .u8 40, .int .u8 15, .int .u8 34, .int .u8 20, .int .u8 31, .int .u8 10, .int .u8 25, .int .u8 14, .int .u8 19, .int .u8 9, .int .u8 13, .int .u8 8, .int .u8 7, .int .u8 6] t frozen
      | o => o).modify 4 fun
      | .cells _ t frozen => .cells #[.int .u64 1, .int .u64 10, .int .u64 100, .int .u64 1000, .int .u64 10000, .int .u64 100000, .int .u64 1000000, .int .u64 10000000, .int .u64 100000000, .int .u64 1000000000, .int .u64 10000000000, .int .u64 100000000000, .int .u64 1000000000000, .int .u64 10000000000000, .int .u64 100000000000000, .int .u64 1000000000000000, .int .u64 10000000000000000, .int .u64 100000000000000000, .int .u64 1000000000000000000, .int .u64 10000000000000000000] t frozen
      | o => o).modify 1 fun
      | .cells _ t frozen => .cells ((List.range 256).map fun c => Value.int .u8 (Lib.firstT c)).toArray t frozen
      | o => o).modify 2 fun
      | .cells _ t frozen => .cells ((List.range 16).flatMap fun i => [Value.int .u8 (Lib.accLo i), Value.int .u8 (Lib.accHi i)]).toArray t frozen
      | o => o) }) (World.holding Tryz.prog os ⟨#[], #[], []⟩) := ⟨_, rfl⟩
  have hos : lw.os = os := by rw [hlw]; rfl
  have hv : (lw.forCall (fun _ _ => 0) ⟨#[], #[.slice none 0 0, .slice none 0 0], []⟩).variablesRefB Tryz.checked.prog = true := by rw [hlw]; kernel_rfl
  have hr : ((lw.forCall (fun _ _ => 0) ⟨#[], #[.slice none 0 0, .slice none 0 0], []⟩).heap.toList.drop Tryz.checked.prog.globals.size).take ((begin Tryz.checked.prog (fun _ _ => 0) default).world.heap.size - Tryz.checked.prog.globals.size) = (begin Tryz.checked.prog (fun _ _ => 0) default).world.heap.toList.drop Tryz.checked.prog.globals.size := by rw [hlw]; kernel_rfl
  have hok : Input.okWideB Tryz.checked.prog (lw.forCall (fun _ _ => 0) ⟨#[], #[.slice none 0 0, .slice none 0 0], []⟩) 4 ⟨#[], #[.slice none 0 0, .slice none 0 0], []⟩ = true := by rw [hlw]; kernel_rfl
  have hx : DataW.whole enc Tryz.prog (lw.forCall (fun _ _ => 0) ⟨#[], #[.slice none 0 0, .slice none 0 0], []⟩).memory Tryz.f4.params.toList Rows.formulaSpellsSpec.vars false #[Value.slice none 0 0, Value.slice none 0 0].toList 8 = some ([.nil, .nil], [], []) := by rw [hlw]; kernel_rfl
  have hlm : laidMet Tryz.prog Rows.formulaSpellsRow.laid (lw.forCall (fun _ _ => 0) ⟨#[], #[.slice none 0 0, .slice none 0 0], []⟩).memory := by rw [hlw]; exact laidMet_of_run' 8 (by kernel_rfl) (by kernel_rfl)
  clear hlw
  refine returnsInHanded_of_row (C := Tryz.checked) (s := OpenSpec.ofChange Rows.formulaSpellsSpec) own started (by kernel_rfl) Tryz.func4
    (witness_row_atRef (enc := enc) (C := Tryz.checked) false lw #[.slice none 0 0, .slice none 0 0] hos hv hr hok
      (OpenSpec.preRow_of_cond 8 hx (by kernel_rfl) (fun k hk => by cases hk) (by kernel_rfl) hlm)) ?_
  intro W base args ds gs before hval hW _ _ hsz hL _ _
  exact formulaSpells_contract H enc W base args ds gs before hval hW hsz hL

theorem formulaSpells_said : Rows.FormulaSpellsSaid :=
  OpenClaim.holds_of_cond 4 Tryz.f4 rfl rfl rfl rfl rfl rfl rfl ⟨rfl, rfl, rfl, rfl, rfl⟩ rfl rfl rfl rfl rfl (by kernel_rfl) Tryz.func4 (by kernel_rfl)
    (of_decide_eq_true (by kernel_rfl)) (by unfold Func.isWrapper; first | (rw [if_pos (by decide +kernel)]; kernel_rfl) | (rw [if_neg (by decide +kernel)]; exact ⟨rfl, rfl⟩))
    (fun os started H enc _ F => by rw [OpenClaim.pre_eq_preRow]; exact formulaSpells_lifted os started H enc F)

/-- no parameter wants a stand-in. -/
theorem formulaSpells_plain (f : FuncId) (fn : Func) (hf : Tryz.pinned.checked.prog.funcNamed "strata/stratalaw13.FormulaSpells" = some f) (hfn : Tryz.pinned.checked.prog.funcs[f]? = some fn) :
    true = Tryz.pinned.checked.prog.looks [] ∧ ∀ (j : Nat) t, fn.params[j]? = some t → Tryz.pinned.checked.prog.wantsStandIn t = false := by
  obtain rfl : f = 4 := Option.some.inj ((show Tryz.prog.funcNamed "strata/stratalaw13.FormulaSpells" = some 4 by kernel_rfl).symm.trans hf) |>.symm
  obtain rfl : fn = Tryz.f4 := (Option.some.inj (Tryz.func4.symm.trans hfn)).symm
  refine ⟨by kernel_rfl, fun j t ht => ?_⟩
  rw [Tryz.params4] at ht
  have hm : t = 22 ∨ t = 36 := by
    have := Array.mem_of_getElem? ht
    simp at this
    omega
  rcases hm with rfl | rfl
  · exact (show Tryz.prog.wantsStandIn 22 = false by kernel_rfl)
  · exact (show Tryz.prog.wantsStandIn 36 = false by kernel_rfl)

theorem formulaSpells_holds : Rows.FormulaSpellsCardSaid :=
  Claim7.holds_tied_plain_at .later [] _ _ _ _ formulaSpells_said (fun _ h => by cases h) (by kernel_rfl) (fun _ h => by cases h) formulaSpells_row_tie rfl ⟨rfl, rfl⟩ (by kernel_rfl) rfl formulaSpells_plain (by kernel_rfl)
#print axioms formulaSpells_holds
end Go.Proofs.YtdkboifpdodonabGreatDoor
