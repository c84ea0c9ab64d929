import Derived.Test.YtfmmmhcpdinhgabDoorZ24
/-
  The document's Lines.
-/
namespace Go.Proofs.YtfmmmhcpdinhgabDoor
open Go.RowKit Go.Deep PureNet PureRd ShfKit
set_option maxRecDepth 100000

/-- what Lines answers. -/
def LinesIs (w : World) (text : List UInt8) (e : Ending) (W : World) : Prop := ∃ (ls : List (List Wd × Value)) (ov : Value), e = .returned (.tuple #[ov, .agg #[.int .i64 ((spotN text).1 : Int), .int .i64 ((spotN text).2 : Int)]]) ∧ W.ownsRow w.heap.size 53 3 ov ls.length (lnC text ls) ∧ (∀ x ∈ ls, WA W W.heap.size text x.1 x.2) ∧ ls.map Prod.fst = linesO text ∧ Below w.heap.size w W
/-- a word behind the others, as a step. -/
theorem step_word {ops : Array Oper} {o : Oper} {a : Act} {w : World} {K : Act → World → Prop} {Q : Exit → Act → World → Prop} {X : Prop} (hgd : o.guard = none) (sl y : Operand) (ho : o.op = .call { callee := .builtin .append, args := #[sl, y], argTypes := #[51, 51] })
    (B n : Nat) (v : Value) (xs : List Value) (u : ByteArray) (p q : Int) (ad : Nat) (hs : a.eval sl = v) (hown : w.ownsRow B 71 3 v n xs) (hx : a.eval y = .slice (some ⟨ad, 0, none⟩) 1 1) (hc : w.heap[ad]? = some (.cells #[.string u, .int .i64 p, .int .i64 q] 71 (0, 0))) (hn : n ≤ 1099511627776) (hB : B ≤ w.heap.size)
    (h : ∀ v' w', w'.ownsRow B 71 3 v' (n + 1) (xs ++ [.string u, .int .i64 p, .int .i64 q]) → w.grownBy w' v.ownBlock → K (a.put o.dst v') w') : if Region.wanted o (yielded ops a.tmps) = true then Oper.wp Tryd.prog o a w K Q else X :=
  step_one hgd sl y 51 71 _ 3 32 ho Tryd.underlying51 info71 rfl (by decide) B n v xs [.string u, .int .i64 p, .int .i64 q] ⟨ad, 0, none⟩ hs hown hx rfl (fun j z hz => by
    rw [add_zero_addr, cell_row hc]
    simpa using hz) (fun z hz => by
    simp only [List.mem_cons, List.not_mem_nil, or_false] at hz
    rcases hz with rfl | rfl | rfl <;> rfl) (by omega) (by omega) hB h

/-- a line behind the others, in the text's order. -/
theorem app_ln {ops : Array Oper} {rest : List Oper} {o : Oper} {a : Act} {Q : Exit → Act → World → Prop} {w : World} (hgd : o.guard = none) (sl x : Operand) (ho : o.op = .call { callee := .builtin .append, args := #[sl, x], argTypes := #[38, 38] })
    (B n : Nat) (v : Value) (xs : List Value) (u : Value) (hu : u.oneCell' = true) (p q : Int) (ad : Nat) (hs : a.eval sl = v) (hown : w.ownsRow B 53 3 v n xs) (hx : a.eval x = .slice (some ⟨ad, 0, none⟩) 1 1) (hc : w.heap[ad]? = some (.cells #[u, .int .i64 p, .int .i64 q] 53 (0, 0))) (hn : n ≤ 1099511627776) (hB : B ≤ w.heap.size)
    (h : ∀ v' w', w'.ownsRow B 53 3 v' (n + 1) (xs ++ [u, .int .i64 p, .int .i64 q]) → w.grownBy w' v.ownBlock → wpList Tryd.prog ops Q rest (a.put o.dst v') w') : wpList Tryd.prog ops Q (o :: rest) a w :=
  app_one hgd sl x 38 53 _ 3 40 ho Tryd.underlying38 info53 rfl (by decide) B n v xs [u, .int .i64 p, .int .i64 q] ⟨ad, 0, none⟩ hs hown hx rfl (fun j z hz => by
    rw [add_zero_addr, cell_row hc]
    simpa using hz) (fun z hz => by
    simp only [List.mem_cons, List.not_mem_nil, or_false] at hz
    rcases hz with rfl | rfl | rfl <;> first | exact hu | rfl) (by omega) (by omega) hB h

/-- at the text's end. -/
theorem Sc.fin {w Y : World} {text : List UInt8} {lo i : Nat} {ls : List (List Wd × Value)} {ov wv : Value} {ws : List Wd} (h : Sc w Y text lo ls ov ws wv i) (hi : i = text.length) (hm : ls.map Prod.fst = linesO text) :
    LinesIs w text (.returned (.tuple #[ov, .agg #[.int .i64 ((spotN (text.take i)).1 : Int), .int .i64 ((spotN (text.take i)).2 : Int)]])) ((Y.drew.setCell ⟨w.heap.size, 0, none⟩ (.int .i64 ((spotN (text.take i)).1 : Int))).setCell ⟨w.heap.size, 1, none⟩ (.int .i64 ((spotN (text.take i)).2 : Int))) := by
  have hl := h.low
  have hk : ∀ k, k ≠ w.heap.size → ((Y.drew.setCell ⟨w.heap.size, 0, none⟩ (.int .i64 ((spotN (text.take i)).1 : Int))).setCell ⟨w.heap.size, 1, none⟩ (.int .i64 ((spotN (text.take i)).2 : Int))).heap[k]? = Y.heap[k]? := fun k hk => by
    rw [Below.heap_setCell _ _ _ _ (show k ≠ _ from hk), Below.heap_setCell _ _ _ _ (show k ≠ _ from hk)]
    rfl
  refine ⟨ls, ov, by rw [hi, List.take_length], ?_, fun x hx => ?_, hm, (h.drew.below.setCell (p := ⟨w.heap.size, 0, none⟩) (Nat.le_refl _) _).setCell (p := ⟨w.heap.size, 1, none⟩) (Nat.le_refl _) _⟩
  · exact own_lower (ShfKit.own_kept h.out (fun g hg => hk g (by have := (h.out.lt g hg).1; omega))) (by omega)
  · obtain ⟨g, c, cur, e, hgl, hr, ht⟩ := h.each x hx
    refine ⟨g, c, cur, e, ?_, (hk g ?_).trans hr, ht⟩
    · have := h.size
      simp
      exact Nat.lt_of_lt_of_le hgl h.size
    · intro e2
      rw [e2, h.rrow] at hr
      simp at hr

set_option maxHeartbeats 40000000 in
theorem lines_doc (text : List UInt8) (w : World) (hl : text.length ≤ 1048576) : Calls Tryd.prog 11 #[str text] w fun e W => LinesIs w text e W := by
  have BLK := fun c W => hid (blank_any c W)
  have S0 : Hid (∀ W, W = ((w.alloc (.cells #[.int .i64 0, .int .i64 0] 28)).alloc (.cells #[.slice none 0 0, .int .i64 0, .int .i64 0] 53)).alloc (.cells #[.int .i64 1, .int .i64 1] 28) → Sc w W text W.heap.size [] (.slice none 0 0) [] (.slice none 0 0) 0) := fun W hW => by
    have e1 : (w.alloc (.cells #[.int .i64 0, .int .i64 0] 28)).heap.size = w.heap.size + 1 := by simp
    have e2 : ((w.alloc (.cells #[.int .i64 0, .int .i64 0] 28)).alloc (.cells #[.slice none 0 0, .int .i64 0, .int .i64 0] 53)).heap.size = w.heap.size + 2 := by simp
    have e3 : W.heap.size = w.heap.size + 3 := by rw [hW]; simp
    refine ⟨by rw [hW]; exact (((Below.refl _ _).alloc (Nat.le_refl _) _).alloc (by simp) _).alloc (by simp; omega) _, ?_, ?_, ?_, ⟨rfl, .inl ⟨rfl, rfl⟩⟩, ⟨rfl, .inl ⟨rfl, rfl⟩⟩, fun _ => rfl, by omega, Nat.le_refl _, fun x hx => by cases hx⟩
    · rw [hW, Lib.alloc_old _ _ _ (by simp; omega), Lib.alloc_old _ _ _ (by simp)]
      exact heap_alloc_new w _
    · rw [hW, Lib.alloc_old _ _ _ (by simp), ← e1]
      exact heap_alloc_new _ _
    · rw [hW, ← e2]
      exact heap_alloc_new _ _
  go_enter Tryd.func11, Tryd.ntmps11
  go_wp2
  go_loopg [4, 7, 8, 9] (text.length + 1) (fun k ov fv nv iv W => Hid (∃ lo ls ws wv cur note i, k + i = text.length + 1 ∧ ls.length ≤ i ∧ ws.length ≤ i ∧ iv = .int .i64 (i : Int) ∧ nv = .bool note ∧ fv = .int .i64 (fromI cur i) ∧ Sc w W text lo ls ov ws wv i ∧ Pi text (ls.map Prod.fst) ws note cur i))
  case atStart => exact ⟨_, [], [], _, [], false, 0, by omega, by simp, by simp, rfl, rfl, rfl, S0.out _ rfl, Pi.start text⟩
  case round =>
    clear S0
    obtain ⟨WW, hWW⟩ : ∃ WW, WW = wr := ⟨_, rfl⟩
    rw [← hWW] at hrel ⊢
    clear hWW
    obtain ⟨lo, ls, ws, wv, cur, note, i, hk, hls, hws, rfl, rfl, rfl, hsc, hpi⟩ := hrel.out
    obtain ⟨so, co, rfl⟩ := own_shape hsc.out
    obtain ⟨sw, cw, rfl⟩ := own_shape hsc.cur
    have hle := hpi.le
    have hcl := hpi.cl
    have hsp := spotN_le (text.take i)
    have htl : (text.take i).length ≤ 1048576 := by simp; omega
    obtain ⟨p1, hp1⟩ : ∃ p, p = (spotN (text.take i)).1 := ⟨_, rfl⟩
    obtain ⟨p2, hp2⟩ : ∃ p, p = (spotN (text.take i)).2 := ⟨_, rfl⟩
    have hb1 : p1 ≤ 1048577 := by omega
    have hb2 : p2 ≤ 1048577 := by omega
    obtain ⟨ea, eb, he⟩ := en_two text ws
    have rl : WW.heap[w.heap.size + 1]? = some (.cells #[.slice sw ws.length cw, .int .i64 ea, .int .i64 eb] 53 (0, 0)) := by have := hsc.lrow; rw [he] at this; exact this
    have ra : WW.heap[w.heap.size + 1 + 1]? = some (.cells #[.int .i64 (p1 : Int), .int .i64 (p2 : Int)] 28 (0, 0)) := by have := hsc.arow; rw [hp1, hp2]; exact this
    have cl := fun j => cell_row rl j
    have ca := fun j => cell_row ra j
    have cr := fun j => cell_row hsc.rrow j
    have fl := fun j => unfrozen_row rl j
    have fa := fun j => unfrozen_row ra j
    have fr := fun j => unfrozen_row hsc.rrow j
    have zl := (Array.getElem?_eq_some_iff.1 rl).1
    have za := (Array.getElem?_eq_some_iff.1 ra).1
    have n1 : w.heap.size + 1 + 1 ≠ w.heap.size + 1 := by omega
    have n2 : w.heap.size + 1 ≠ w.heap.size + 1 + 1 := by omega
    have n3 : w.heap.size ≠ w.heap.size + 1 + 1 := by omega
    have n4 : w.heap.size + 1 + 1 ≠ w.heap.size := by omega
    have HSC := hid hsc
    have HPI := hid hpi
    have HP1 := hid hp1
    have HP2 := hid hp2
    have HE := hid he
    have HK := hid hk
    clear hrel hsc hpi rl ra hp1 hp2 he hsp htl hk
    by_cases hi : i < text.length
    · obtain ⟨c, hc⟩ : ∃ c, text[i]? = some c := ⟨_, List.getElem?_eq_getElem hi⟩
      have HC := hid hc
      have hszb : i < (⟨text.toArray⟩ : ByteArray).size := by show i < text.toArray.size; simpa using hi
      have hget : (⟨text.toArray⟩ : ByteArray)[i]'hszb = c := by
        obtain ⟨h1, h2⟩ := List.getElem?_eq_some_iff.1 hc
        rw [← h2]
        rfl
      have BC := fun W => BLK c W
      clear BLK hc
      have hiI : (i : Int) < (text.length : Int) := by omega
      have hiI2 : (i : Int) ≤ (text.length : Int) := by omega
      have hiN : ((i : Int) == (text.length : Int)) = false := by rw [beq_eq_false_iff_ne]; omega
      by_cases h10 : c = 10
      · have HC10 : Hid (text[i]? = some 10) := by show _ = _; rw [HC.out, h10]
        have e10 : ((c.toNat : Int) == 10) = true := by rw [h10]; rfl
        have e35 : ((c.toNat : Int) == 35) = false := by rw [h10]; rfl
        have hbl : blankB c = false := by rw [h10]; decide
        clear h10
        cases note with
        | true =>
          have h0 := HPI.out.rem rfl
          subst h0
          have hfr : fromI ([] : List UInt8) i = -1 := rfl
          rw [hfr]
          have NX0 := HPI.out.end_line HC10.out
          rw [flO_nil, List.append_nil] at NX0
          by_cases hws0 : ws = []
          · subst hws0
            have hwv := HSC.out.nil rfl
            simp only [Value.slice.injEq, List.length_nil, true_and] at hwv
            obtain ⟨rfl, rfl⟩ := hwv
            obtain ⟨Y, hY⟩ : ∃ Y, Y = ((WW.setCell ⟨w.heap.size + 1, 0, none⟩ (.slice none 0 0)).setCell ⟨w.heap.size + 1, 1, none⟩ (.int .i64 0)).setCell ⟨w.heap.size + 1, 2, none⟩ (.int .i64 0) := ⟨_, rfl⟩
            have sy : Sc w Y text lo ls (.slice so ls.length co) [] (.slice none 0 0) i := by rw [hY]; exact HSC.out.again rfl
            have NX : Hid (Pi text (ls.map Prod.fst) [] false [] (i + 1)) := by
              have q := NX0
              rw [show emitO ([] : List Wd) = [] from rfl, List.append_nil] at q
              exact q
            have HY := hid hY
            clear NX0 hY
            have ay : Y.heap[w.heap.size + 1 + 1]? = some (.cells #[.int .i64 (p1 : Int), .int .i64 (p2 : Int)] 28 (0, 0)) := (by rw [HP1.out, HP2.out]; exact sy.arow); have cay := fun j => cell_row ay j; have fay := fun j => unfrozen_row ay j; have cry := fun j => cell_row sy.rrow j; have fry := fun j => unfrozen_row sy.rrow j; have zay := (Array.getElem?_eq_some_iff.1 ay).1; have zry := (Array.getElem?_eq_some_iff.1 sy.rrow).1; have SY := hid sy; have cayd : ∀ j, Y.drew.cell? ⟨w.heap.size + 1 + 1, j, none⟩ = #[Value.int .i64 (p1 : Int), .int .i64 (p2 : Int)][j]? := cay; have cryd : ∀ j, Y.drew.cell? ⟨w.heap.size, j, none⟩ = #[Value.int .i64 0, .int .i64 0][j]? := cry; have fryd : ∀ j, Y.drew.frozen? ⟨w.heap.size, j, none⟩ = false := fry; clear ay sy
            go_wp2_with (first | (have q := HY; clear q; rw [← HY.out]; clear HY))
            have TK := hid (SY.out.tick10 HC10.out)
            rw [← HP1.out, ← HP2.out] at TK
            go_roundg (text.length - i)
            case measure => have := HK.out; omega
            case rel => exact ⟨lo, ls, [], _, [], false, i + 1, by omega, by omega, by simp, by go_num, rfl, rfl, TK.out, NX.out⟩
          · have hpos : (0 : Int) < (ws.length : Int) := by have := List.length_pos_iff.2 hws0; omega
            have HNE := hid hws0
            have SCB := hid (HSC.out.on ((Below.refl _ _).alloc (Nat.le_refl _) (Obj.cells #[.slice sw ws.length cw, .int .i64 ea, .int .i64 eb] 53)))
            have CEB : Hid ((WW.alloc (Obj.cells #[.slice sw ws.length cw, .int .i64 ea, .int .i64 eb] 53)).heap[WW.heap.size]? = some (.cells #[.slice sw ws.length cw, .int .i64 ea, .int .i64 eb] 53 (0, 0))) := heap_alloc_new WW _
            have NX : Hid (Pi text ((ls ++ [(ws, Value.slice sw ws.length cw)]).map Prod.fst) [] false [] (i + 1)) := by
              have q := NX0
              rw [emitO_some hws0] at q
              rw [List.map_append]
              exact q
            have HEN : Hid ((Value.slice sw ws.length cw :: enC text ws) = [.slice sw ws.length cw, .int .i64 ea, .int .i64 eb]) := by show _ = _; rw [HE.out]
            clear NX0 hws0
            go_wp2_with (first | (have q := HY; clear q; rw [← HY.out]; clear HY) | (at_builtin; refine app_ln rfl _ _ rfl (w.heap.size + 3) ls.length (.slice so ls.length co) (lnC text ls) (.slice sw ws.length cw) rfl ea eb WW.heap.size rfl SCB.out.out rfl CEB.out (by omega) (by have := SCB.out.low; have := SCB.out.size; omega) ?_; intro v7 w7 o7 g7; rw [← HEN.out] at o7; obtain ⟨l7, a7, sy0⟩ := SCB.out.line HNE.out o7 g7; obtain ⟨sv7, cv7, rfl⟩ := own_shape o7; rw [HEN.out] at l7; have cl7 := fun j => cell_row l7 j; have fl7 := fun j => unfrozen_row l7 j; have zl7 := (Array.getElem?_eq_some_iff.1 l7).1; obtain ⟨Y, hY⟩ : ∃ Y, Y = ((w7.setCell ⟨w.heap.size + 1, 0, none⟩ (.slice none 0 0)).setCell ⟨w.heap.size + 1, 1, none⟩ (.int .i64 0)).setCell ⟨w.heap.size + 1, 2, none⟩ (.int .i64 0) := ⟨_, rfl⟩; have sy : Sc w Y text w7.heap.size (ls ++ [(ws, .slice sw ws.length cw)]) (.slice sv7 (ls.length + 1) cv7) [] (.slice none 0 0) i := (by rw [hY]; exact sy0); have HY := hid hY; have ay : Y.heap[w.heap.size + 1 + 1]? = some (.cells #[.int .i64 (p1 : Int), .int .i64 (p2 : Int)] 28 (0, 0)) := (by rw [HP1.out, HP2.out]; exact sy.arow); have cay := fun j => cell_row ay j; have fay := fun j => unfrozen_row ay j; have cry := fun j => cell_row sy.rrow j; have fry := fun j => unfrozen_row sy.rrow j; have zay := (Array.getElem?_eq_some_iff.1 ay).1; have zry := (Array.getElem?_eq_some_iff.1 sy.rrow).1; have SY := hid sy; have cayd : ∀ j, Y.drew.cell? ⟨w.heap.size + 1 + 1, j, none⟩ = #[Value.int .i64 (p1 : Int), .int .i64 (p2 : Int)][j]? := cay; have cryd : ∀ j, Y.drew.cell? ⟨w.heap.size, j, none⟩ = #[Value.int .i64 0, .int .i64 0][j]? := cry; have fryd : ∀ j, Y.drew.frozen? ⟨w.heap.size, j, none⟩ = false := fry; clear ay sy; clear l7 a7 sy0 o7 g7 hY))
            have TK := hid (SY.out.tick10 HC10.out)
            rw [← HP1.out, ← HP2.out] at TK
            go_roundg (text.length - i)
            case measure => have := HK.out; omega
            case rel => exact ⟨w7.heap.size, ls ++ [(ws, Value.slice sw ws.length cw)], [], _, [], false, i + 1, by omega, by simp; omega, by simp, by go_num, rfl, rfl, TK.out, NX.out⟩
        | false =>
          by_cases hcur : cur = []
          · subst hcur
            have hfr : fromI ([] : List UInt8) i = -1 := rfl
            rw [hfr]
            have NX0 := HPI.out.end_line HC10.out
            rw [flO_nil, List.append_nil] at NX0
            by_cases hws0 : ws = []
            · subst hws0
              have hwv := HSC.out.nil rfl
              simp only [Value.slice.injEq, List.length_nil, true_and] at hwv
              obtain ⟨rfl, rfl⟩ := hwv
              obtain ⟨Y, hY⟩ : ∃ Y, Y = ((WW.setCell ⟨w.heap.size + 1, 0, none⟩ (.slice none 0 0)).setCell ⟨w.heap.size + 1, 1, none⟩ (.int .i64 0)).setCell ⟨w.heap.size + 1, 2, none⟩ (.int .i64 0) := ⟨_, rfl⟩
              have sy : Sc w Y text lo ls (.slice so ls.length co) [] (.slice none 0 0) i := by rw [hY]; exact HSC.out.again rfl
              have NX : Hid (Pi text (ls.map Prod.fst) [] false [] (i + 1)) := by
                have q := NX0
                rw [show emitO ([] : List Wd) = [] from rfl, List.append_nil] at q
                exact q
              have HY := hid hY
              clear NX0 hY
              have ay : Y.heap[w.heap.size + 1 + 1]? = some (.cells #[.int .i64 (p1 : Int), .int .i64 (p2 : Int)] 28 (0, 0)) := (by rw [HP1.out, HP2.out]; exact sy.arow); have cay := fun j => cell_row ay j; have fay := fun j => unfrozen_row ay j; have cry := fun j => cell_row sy.rrow j; have fry := fun j => unfrozen_row sy.rrow j; have zay := (Array.getElem?_eq_some_iff.1 ay).1; have zry := (Array.getElem?_eq_some_iff.1 sy.rrow).1; have SY := hid sy; have cayd : ∀ j, Y.drew.cell? ⟨w.heap.size + 1 + 1, j, none⟩ = #[Value.int .i64 (p1 : Int), .int .i64 (p2 : Int)][j]? := cay; have cryd : ∀ j, Y.drew.cell? ⟨w.heap.size, j, none⟩ = #[Value.int .i64 0, .int .i64 0][j]? := cry; have fryd : ∀ j, Y.drew.frozen? ⟨w.heap.size, j, none⟩ = false := fry; clear ay sy
              go_wp2_with (first | (have q := HY; clear q; rw [← HY.out]; clear HY) | (go_at_call 19; with_reducible refine Calls.mono (BC _).out ?_; rintro e wb ⟨rfl, hwb⟩; rw [hwb, hbl]))
              have TK := hid (SY.out.tick10 HC10.out)
              rw [← HP1.out, ← HP2.out] at TK
              go_roundg (text.length - i)
              case measure => have := HK.out; omega
              case rel => exact ⟨lo, ls, [], _, [], false, i + 1, by omega, by omega, by simp, by go_num, rfl, rfl, TK.out, NX.out⟩
            · have hpos : (0 : Int) < (ws.length : Int) := by have := List.length_pos_iff.2 hws0; omega
              have HNE := hid hws0
              have SCB := hid (HSC.out.on ((Below.refl _ _).alloc (Nat.le_refl _) (Obj.cells #[.slice sw ws.length cw, .int .i64 ea, .int .i64 eb] 53)))
              have CEB : Hid ((WW.alloc (Obj.cells #[.slice sw ws.length cw, .int .i64 ea, .int .i64 eb] 53)).heap[WW.heap.size]? = some (.cells #[.slice sw ws.length cw, .int .i64 ea, .int .i64 eb] 53 (0, 0))) := heap_alloc_new WW _
              have NX : Hid (Pi text ((ls ++ [(ws, Value.slice sw ws.length cw)]).map Prod.fst) [] false [] (i + 1)) := by
                have q := NX0
                rw [emitO_some hws0] at q
                rw [List.map_append]
                exact q
              have HEN : Hid ((Value.slice sw ws.length cw :: enC text ws) = [.slice sw ws.length cw, .int .i64 ea, .int .i64 eb]) := by show _ = _; rw [HE.out]
              clear NX0 hws0
              go_wp2_with (first | (have q := HY; clear q; rw [← HY.out]; clear HY) | (at_builtin; refine app_ln rfl _ _ rfl (w.heap.size + 3) ls.length (.slice so ls.length co) (lnC text ls) (.slice sw ws.length cw) rfl ea eb WW.heap.size rfl SCB.out.out rfl CEB.out (by omega) (by have := SCB.out.low; have := SCB.out.size; omega) ?_; intro v7 w7 o7 g7; rw [← HEN.out] at o7; obtain ⟨l7, a7, sy0⟩ := SCB.out.line HNE.out o7 g7; obtain ⟨sv7, cv7, rfl⟩ := own_shape o7; rw [HEN.out] at l7; have cl7 := fun j => cell_row l7 j; have fl7 := fun j => unfrozen_row l7 j; have zl7 := (Array.getElem?_eq_some_iff.1 l7).1; obtain ⟨Y, hY⟩ : ∃ Y, Y = ((w7.setCell ⟨w.heap.size + 1, 0, none⟩ (.slice none 0 0)).setCell ⟨w.heap.size + 1, 1, none⟩ (.int .i64 0)).setCell ⟨w.heap.size + 1, 2, none⟩ (.int .i64 0) := ⟨_, rfl⟩; have sy : Sc w Y text w7.heap.size (ls ++ [(ws, .slice sw ws.length cw)]) (.slice sv7 (ls.length + 1) cv7) [] (.slice none 0 0) i := (by rw [hY]; exact sy0); have HY := hid hY; have ay : Y.heap[w.heap.size + 1 + 1]? = some (.cells #[.int .i64 (p1 : Int), .int .i64 (p2 : Int)] 28 (0, 0)) := (by rw [HP1.out, HP2.out]; exact sy.arow); have cay := fun j => cell_row ay j; have fay := fun j => unfrozen_row ay j; have cry := fun j => cell_row sy.rrow j; have fry := fun j => unfrozen_row sy.rrow j; have zay := (Array.getElem?_eq_some_iff.1 ay).1; have zry := (Array.getElem?_eq_some_iff.1 sy.rrow).1; have SY := hid sy; have cayd : ∀ j, Y.drew.cell? ⟨w.heap.size + 1 + 1, j, none⟩ = #[Value.int .i64 (p1 : Int), .int .i64 (p2 : Int)][j]? := cay; have cryd : ∀ j, Y.drew.cell? ⟨w.heap.size, j, none⟩ = #[Value.int .i64 0, .int .i64 0][j]? := cry; have fryd : ∀ j, Y.drew.frozen? ⟨w.heap.size, j, none⟩ = false := fry; clear ay sy; clear l7 a7 sy0 o7 g7 hY) | (go_at_call 19; with_reducible refine Calls.mono (BC _).out ?_; rintro e wb ⟨rfl, hwb⟩; rw [hwb, hbl]))
              have TK := hid (SY.out.tick10 HC10.out)
              rw [← HP1.out, ← HP2.out] at TK
              go_roundg (text.length - i)
              case measure => have := HK.out; omega
              case rel => exact ⟨w7.heap.size, ls ++ [(ws, Value.slice sw ws.length cw)], [], _, [], false, i + 1, by omega, by simp; omega, by simp, by go_num, rfl, rfl, TK.out, NX.out⟩
          · obtain ⟨fm, hfm⟩ : ∃ fm, fm = i - cur.length := ⟨_, rfl⟩
            have hfr : fromI cur i = (fm : Int) := by unfold fromI; rw [if_neg hcur, hfm]
            rw [hfr]
            have hfl : (fm : Int) ≤ (i : Int) := by omega
            have hfl2 : fm ≤ i := by omega
            have hf0 : ¬ ((fm : Int) < 0) := by omega
            have hf1 : (0 : Int) ≤ (fm : Int) := by omega
            obtain ⟨hex, hspt⟩ := HPI.out.word
            rw [← hfm] at hex hspt
            have EQ : Hid ([Value.string ⟨cur.toArray⟩, .int .i64 (p1 : Int), .int .i64 ((p2 : Int) - ((i : Int) - (fm : Int)))] = str cur :: spI text fm) := by
              show _ = _
              have e1 : p1 = (spotN (text.take fm)).1 := by rw [HP1.out, hspt]
              have e2 : p2 = (spotN (text.take fm)).2 + cur.length := by rw [HP2.out, hspt]
              unfold spI
              rw [← e1, show (p2 : Int) - ((i : Int) - (fm : Int)) = ((spotN (text.take fm)).2 : Int) by omega]
            have SCA := hid ((HSC.out.on ((Below.refl _ _).alloc (Nat.le_refl _) (Obj.cells #[.string ⟨cur.toArray⟩, .int .i64 (p1 : Int), .int .i64 ((p2 : Int) - ((i : Int) - (fm : Int)))] 71))).drew)
            have CE : Hid ((WW.alloc (Obj.cells #[.string ⟨cur.toArray⟩, .int .i64 (p1 : Int), .int .i64 ((p2 : Int) - ((i : Int) - (fm : Int)))] 71)).drew.heap[WW.heap.size]? = some (.cells #[.string ⟨cur.toArray⟩, .int .i64 (p1 : Int), .int .i64 ((p2 : Int) - ((i : Int) - (fm : Int)))] 71 (0, 0))) := heap_alloc_new WW _
            have hyi : Hid (fm + cur.length = i) := by show _ = _; omega
            have FO : Hid (flO i cur = [(cur, fm)]) := by show _ = _; rw [flO_some hcur, hfm]
            have hsl : (fm : Int) ≤ (text.length : Int) := by omega
            have hw1 : IntKind.i64.wrap ((i : Int) - (fm : Int)) = (i : Int) - (fm : Int) := by rw [IntKind.wrap_i64]; omega
            have hw2 : IntKind.i64.wrap ((p2 : Int) - ((i : Int) - (fm : Int))) = (p2 : Int) - ((i : Int) - (fm : Int)) := by rw [IntKind.wrap_i64]; omega
            clear hspt hfm hfr
            go_wp2_with (go_at_call 19; with_reducible refine Calls.mono (BC _).out ?_; rintro e wb ⟨rfl, hwb⟩; rw [hwb, hbl])
            go_region_law (refine step_word rfl _ _ rfl lo ws.length (.slice sw ws.length cw) (wdC text ws) ⟨cur.toArray⟩ (p1 : Int) ((p2 : Int) - ((i : Int) - (fm : Int))) WW.heap.size rfl SCA.out.cur rfl CE.out (by omega) SCA.out.size ?_; intro v6 w6 o6 g6; rw [EQ.out] at o6; obtain ⟨l6, a6, s6⟩ := SCA.out.push (y := (cur, fm)) o6 g6 hyi.out; obtain ⟨sv6, cv6, rfl⟩ := own_shape o6; rw [HE.out] at l6; rw [← HP1.out, ← HP2.out] at s6; have a6' : w6.heap[w.heap.size + 1 + 1]? = some (.cells #[.int .i64 (p1 : Int), .int .i64 (p2 : Int)] 28 (0, 0)) := (by rw [HP1.out, HP2.out]; exact a6); have cl6 := fun j => cell_row l6 j; have ca6 := fun j => cell_row a6' j; have fl6 := fun j => unfrozen_row l6 j; have fa6 := fun j => unfrozen_row a6' j; have zl6 := (Array.getElem?_eq_some_iff.1 l6).1; have za6 := (Array.getElem?_eq_some_iff.1 a6').1; obtain ⟨X6, hX6⟩ : ∃ X6, X6 = ((w6.setCell ⟨w.heap.size + 1, 0, none⟩ (.slice sv6 (ws.length + 1) cv6)).setCell ⟨w.heap.size + 1, 1, none⟩ (.int .i64 (p1 : Int))).setCell ⟨w.heap.size + 1, 2, none⟩ (.int .i64 (p2 : Int)) := ⟨_, rfl⟩; rw [← hX6] at s6; have lx := s6.lrow; rw [enC_snoc, hyi.out] at lx; unfold spI at lx; rw [← HP1.out, ← HP2.out] at lx; have clx := fun j => cell_row lx j; have flx := fun j => unfrozen_row lx j; have zlx := (Array.getElem?_eq_some_iff.1 lx).1; have SX6 := hid s6; have HX6 := hid hX6; clear l6 a6 a6' s6 o6 g6 lx hX6)
            all_goals
              have HNE : Hid (ws ++ [(cur, fm)] ≠ []) := by show _ ≠ _; simp
              have hpos : (0 : Int) < ((ws.length + 1 : Nat) : Int) := by omega
              have SCB := hid (SX6.out.on ((Below.refl _ _).alloc (Nat.le_refl _) (Obj.cells #[.slice sv6 (ws.length + 1) cv6, .int .i64 (p1 : Int), .int .i64 (p2 : Int)] 53)))
              have CEB : Hid ((X6.alloc (Obj.cells #[.slice sv6 (ws.length + 1) cv6, .int .i64 (p1 : Int), .int .i64 (p2 : Int)] 53)).heap[X6.heap.size]? = some (.cells #[.slice sv6 (ws.length + 1) cv6, .int .i64 (p1 : Int), .int .i64 (p2 : Int)] 53 (0, 0))) := heap_alloc_new X6 _
              have NX : Hid (Pi text ((ls ++ [(ws ++ [(cur, fm)], Value.slice sv6 (ws.length + 1) cv6)]).map Prod.fst) [] false [] (i + 1)) := by
                have q := HPI.out.end_line HC10.out
                rw [FO.out, emitO_some (by simp)] at q
                rw [List.map_append]
                exact q
              have HEN : Hid ((Value.slice sv6 (ws.length + 1) cv6 :: enC text (ws ++ [(cur, fm)])) = [.slice sv6 (ws.length + 1) cv6, .int .i64 (p1 : Int), .int .i64 (p2 : Int)]) := by show _ = _; rw [enC_snoc, hyi.out, spI, ← HP1.out, ← HP2.out]
              go_wp2_with (first | (have q := HX6; clear q; rw [← HX6.out]; clear HX6) | (have q := HY; clear q; rw [← HY.out]; clear HY) | (at_builtin; refine app_ln rfl _ _ rfl (w.heap.size + 3) ls.length (.slice so ls.length co) (lnC text ls) (.slice sv6 (ws.length + 1) cv6) rfl (p1 : Int) (p2 : Int) X6.heap.size rfl SCB.out.out rfl CEB.out (by omega) (by have := SCB.out.low; have := SCB.out.size; omega) ?_; intro v7 w7 o7 g7; rw [← HEN.out] at o7; obtain ⟨l7, a7, sy0⟩ := SCB.out.line HNE.out o7 g7; obtain ⟨sv7, cv7, rfl⟩ := own_shape o7; rw [HEN.out] at l7; have cl7 := fun j => cell_row l7 j; have fl7 := fun j => unfrozen_row l7 j; have zl7 := (Array.getElem?_eq_some_iff.1 l7).1; obtain ⟨Y, hY⟩ : ∃ Y, Y = ((w7.setCell ⟨w.heap.size + 1, 0, none⟩ (.slice none 0 0)).setCell ⟨w.heap.size + 1, 1, none⟩ (.int .i64 0)).setCell ⟨w.heap.size + 1, 2, none⟩ (.int .i64 0) := ⟨_, rfl⟩; have sy : Sc w Y text w7.heap.size (ls ++ [((ws ++ [(cur, fm)]), .slice sv6 (ws.length + 1) cv6)]) (.slice sv7 (ls.length + 1) cv7) [] (.slice none 0 0) i := (by rw [hY]; exact sy0); have HY := hid hY; have ay : Y.heap[w.heap.size + 1 + 1]? = some (.cells #[.int .i64 (p1 : Int), .int .i64 (p2 : Int)] 28 (0, 0)) := (by rw [HP1.out, HP2.out]; exact sy.arow); have cay := fun j => cell_row ay j; have fay := fun j => unfrozen_row ay j; have cry := fun j => cell_row sy.rrow j; have fry := fun j => unfrozen_row sy.rrow j; have zay := (Array.getElem?_eq_some_iff.1 ay).1; have zry := (Array.getElem?_eq_some_iff.1 sy.rrow).1; have SY := hid sy; have cayd : ∀ j, Y.drew.cell? ⟨w.heap.size + 1 + 1, j, none⟩ = #[Value.int .i64 (p1 : Int), .int .i64 (p2 : Int)][j]? := cay; have cryd : ∀ j, Y.drew.cell? ⟨w.heap.size, j, none⟩ = #[Value.int .i64 0, .int .i64 0][j]? := cry; have fryd : ∀ j, Y.drew.frozen? ⟨w.heap.size, j, none⟩ = false := fry; clear ay sy; clear l7 a7 sy0 o7 g7 hY))
              have TK := hid (SY.out.tick10 HC10.out)
              rw [← HP1.out, ← HP2.out] at TK
              go_roundg (text.length - i)
              case measure => have := HK.out; omega
              case rel => exact ⟨w7.heap.size, ls ++ [(ws ++ [(cur, fm)], Value.slice sv6 (ws.length + 1) cv6)], [], _, [], false, i + 1, by omega, by simp; omega, by simp, by go_num, rfl, rfl, TK.out, NX.out⟩
      · have e10 : ((c.toNat : Int) == 10) = false := by rw [beq_eq_false_iff_ne]; intro e; exact h10 (UInt8.toNat_inj.1 (by show c.toNat = 10; omega))
        have TK := hid (HSC.out.tick c HC.out h10)
        rw [← HP2.out] at TK
        cases note with
        | true =>
          have h0 := HPI.out.rem rfl
          subst h0
          have NX := hid (HPI.out.in_note HC.out h10)
          have hfr : fromI ([] : List UInt8) i = -1 := rfl
          rw [hfr]
          have e35 : ((c.toNat : Int) == 35) = decide (c = 35) := by
            by_cases h : c = 35
            · subst h; rfl
            · rw [decide_eq_false h, beq_eq_false_iff_ne]; intro e; exact h (UInt8.toNat_inj.1 (by show c.toNat = 35; omega))
          by_cases h35 : c = 35
          · rw [decide_eq_true h35] at e35
            clear h35
            go_wp2
            go_roundg (text.length - i)
            case measure => have := HK.out; omega
            case rel => exact ⟨lo, ls, ws, _, [], true, i + 1, by omega, by omega, by omega, by go_num, rfl, rfl, TK.out, NX.out⟩
          · rw [decide_eq_false h35] at e35
            go_wp2
            go_roundg (text.length - i)
            case measure => have := HK.out; omega
            case rel => exact ⟨lo, ls, ws, _, [], true, i + 1, by omega, by omega, by omega, by go_num, rfl, rfl, TK.out, NX.out⟩
        | false =>
          by_cases h35 : c = 35
          · have e35 : ((c.toNat : Int) == 35) = true := by rw [h35]; rfl
            have hbl : blankB c = false := by rw [h35]; decide
            have hc35 : text[i]? = some 35 := by rw [HC.out, h35]
            have NX := hid (HPI.out.note_on hc35)
            clear hc35 h35
            by_cases hcur : cur = []
            · subst hcur
              have hfr : fromI ([] : List UInt8) i = -1 := rfl
              rw [hfr]
              rw [flO_nil, List.append_nil] at NX
              go_wp2_with (go_at_call 19; with_reducible refine Calls.mono (BC _).out ?_; rintro e wb ⟨rfl, hwb⟩; rw [hwb, hbl])
              go_roundg (text.length - i)
              case measure => have := HK.out; omega
              case rel => exact ⟨lo, ls, ws, _, [], true, i + 1, by omega, by omega, by omega, by go_num, rfl, rfl, TK.out, NX.out⟩
            · obtain ⟨fm, hfm⟩ : ∃ fm, fm = i - cur.length := ⟨_, rfl⟩
              have hfr : fromI cur i = (fm : Int) := by unfold fromI; rw [if_neg hcur, hfm]
              rw [hfr]
              have hfl : (fm : Int) ≤ (i : Int) := by omega
              have hfl2 : fm ≤ i := by omega
              have hf0 : ¬ ((fm : Int) < 0) := by omega
              have hf1 : (0 : Int) ≤ (fm : Int) := by omega
              obtain ⟨hex, hspt⟩ := HPI.out.word
              rw [← hfm] at hex hspt
              have EQ : Hid ([Value.string ⟨cur.toArray⟩, .int .i64 (p1 : Int), .int .i64 ((p2 : Int) - ((i : Int) - (fm : Int)))] = str cur :: spI text fm) := by
                show _ = _
                have e1 : p1 = (spotN (text.take fm)).1 := by rw [HP1.out, hspt]
                have e2 : p2 = (spotN (text.take fm)).2 + cur.length := by rw [HP2.out, hspt]
                unfold spI
                rw [← e1, show (p2 : Int) - ((i : Int) - (fm : Int)) = ((spotN (text.take fm)).2 : Int) by omega]
              have SCA := hid ((HSC.out.on ((Below.refl _ _).alloc (Nat.le_refl _) (Obj.cells #[.string ⟨cur.toArray⟩, .int .i64 (p1 : Int), .int .i64 ((p2 : Int) - ((i : Int) - (fm : Int)))] 71))).drew)
              have CE : Hid ((WW.alloc (Obj.cells #[.string ⟨cur.toArray⟩, .int .i64 (p1 : Int), .int .i64 ((p2 : Int) - ((i : Int) - (fm : Int)))] 71)).drew.heap[WW.heap.size]? = some (.cells #[.string ⟨cur.toArray⟩, .int .i64 (p1 : Int), .int .i64 ((p2 : Int) - ((i : Int) - (fm : Int)))] 71 (0, 0))) := heap_alloc_new WW _
              have hyi : Hid (fm + cur.length = i) := by show _ = _; omega
              have FO : Hid (flO i cur = [(cur, fm)]) := by show _ = _; rw [flO_some hcur, hfm]
              have hsl : (fm : Int) ≤ (text.length : Int) := by omega
              have hw1 : IntKind.i64.wrap ((i : Int) - (fm : Int)) = (i : Int) - (fm : Int) := by rw [IntKind.wrap_i64]; omega
              have hw2 : IntKind.i64.wrap ((p2 : Int) - ((i : Int) - (fm : Int))) = (p2 : Int) - ((i : Int) - (fm : Int)) := by rw [IntKind.wrap_i64]; omega
              clear hspt hfm hfr
              go_wp2_with (go_at_call 19; with_reducible refine Calls.mono (BC _).out ?_; rintro e wb ⟨rfl, hwb⟩; rw [hwb, hbl])
              go_region_law (refine step_word rfl _ _ rfl lo ws.length (.slice sw ws.length cw) (wdC text ws) ⟨cur.toArray⟩ (p1 : Int) ((p2 : Int) - ((i : Int) - (fm : Int))) WW.heap.size rfl SCA.out.cur rfl CE.out (by omega) SCA.out.size ?_; intro v6 w6 o6 g6; rw [EQ.out] at o6; obtain ⟨l6, a6, s6⟩ := SCA.out.push (y := (cur, fm)) o6 g6 hyi.out; obtain ⟨sv6, cv6, rfl⟩ := own_shape o6; rw [HE.out] at l6; rw [← HP1.out, ← HP2.out] at s6; have a6' : w6.heap[w.heap.size + 1 + 1]? = some (.cells #[.int .i64 (p1 : Int), .int .i64 (p2 : Int)] 28 (0, 0)) := (by rw [HP1.out, HP2.out]; exact a6); have cl6 := fun j => cell_row l6 j; have ca6 := fun j => cell_row a6' j; have fl6 := fun j => unfrozen_row l6 j; have fa6 := fun j => unfrozen_row a6' j; have zl6 := (Array.getElem?_eq_some_iff.1 l6).1; have za6 := (Array.getElem?_eq_some_iff.1 a6').1; have SC6 := hid s6; clear l6 a6 a6' s6 o6 g6)
              all_goals
                rw [FO.out] at NX
                have TK6 := hid (SC6.out.tick c HC.out h10)
                rw [← HP2.out] at TK6
                go_wp2
                go_roundg (text.length - i)
                case measure => have := HK.out; omega
                case rel => exact ⟨lo, ls, ws ++ [(cur, fm)], _, [], true, i + 1, by omega, by omega, by simp; omega, by go_num, rfl, rfl, TK6.out, NX.out⟩
          · have e35 : ((c.toNat : Int) == 35) = false := by rw [beq_eq_false_iff_ne]; intro e; exact h35 (UInt8.toNat_inj.1 (by show c.toNat = 35; omega))
            cases hbl : blankB c with
            | true =>
              have NX := hid (HPI.out.blank HC.out h10 h35 hbl)
              by_cases hcur : cur = []
              · subst hcur
                have hfr : fromI ([] : List UInt8) i = -1 := rfl
                rw [hfr]
                rw [flO_nil, List.append_nil] at NX
                go_wp2_with (go_at_call 19; with_reducible refine Calls.mono (BC _).out ?_; rintro e wb ⟨rfl, hwb⟩; rw [hwb, hbl])
                go_roundg (text.length - i)
                case measure => have := HK.out; omega
                case rel => exact ⟨lo, ls, ws, _, [], false, i + 1, by omega, by omega, by omega, by go_num, rfl, rfl, TK.out, NX.out⟩
              · obtain ⟨fm, hfm⟩ : ∃ fm, fm = i - cur.length := ⟨_, rfl⟩
                have hfr : fromI cur i = (fm : Int) := by unfold fromI; rw [if_neg hcur, hfm]
                rw [hfr]
                have hfl : (fm : Int) ≤ (i : Int) := by omega
                have hfl2 : fm ≤ i := by omega
                have hf0 : ¬ ((fm : Int) < 0) := by omega
                have hf1 : (0 : Int) ≤ (fm : Int) := by omega
                obtain ⟨hex, hspt⟩ := HPI.out.word
                rw [← hfm] at hex hspt
                have EQ : Hid ([Value.string ⟨cur.toArray⟩, .int .i64 (p1 : Int), .int .i64 ((p2 : Int) - ((i : Int) - (fm : Int)))] = str cur :: spI text fm) := by
                  show _ = _
                  have e1 : p1 = (spotN (text.take fm)).1 := by rw [HP1.out, hspt]
                  have e2 : p2 = (spotN (text.take fm)).2 + cur.length := by rw [HP2.out, hspt]
                  unfold spI
                  rw [← e1, show (p2 : Int) - ((i : Int) - (fm : Int)) = ((spotN (text.take fm)).2 : Int) by omega]
                have SCA := hid ((HSC.out.on ((Below.refl _ _).alloc (Nat.le_refl _) (Obj.cells #[.string ⟨cur.toArray⟩, .int .i64 (p1 : Int), .int .i64 ((p2 : Int) - ((i : Int) - (fm : Int)))] 71))).drew)
                have CE : Hid ((WW.alloc (Obj.cells #[.string ⟨cur.toArray⟩, .int .i64 (p1 : Int), .int .i64 ((p2 : Int) - ((i : Int) - (fm : Int)))] 71)).drew.heap[WW.heap.size]? = some (.cells #[.string ⟨cur.toArray⟩, .int .i64 (p1 : Int), .int .i64 ((p2 : Int) - ((i : Int) - (fm : Int)))] 71 (0, 0))) := heap_alloc_new WW _
                have hyi : Hid (fm + cur.length = i) := by show _ = _; omega
                have FO : Hid (flO i cur = [(cur, fm)]) := by show _ = _; rw [flO_some hcur, hfm]
                have hsl : (fm : Int) ≤ (text.length : Int) := by omega
                have hw1 : IntKind.i64.wrap ((i : Int) - (fm : Int)) = (i : Int) - (fm : Int) := by rw [IntKind.wrap_i64]; omega
                have hw2 : IntKind.i64.wrap ((p2 : Int) - ((i : Int) - (fm : Int))) = (p2 : Int) - ((i : Int) - (fm : Int)) := by rw [IntKind.wrap_i64]; omega
                clear hspt hfm hfr
                go_wp2_with (go_at_call 19; with_reducible refine Calls.mono (BC _).out ?_; rintro e wb ⟨rfl, hwb⟩; rw [hwb, hbl])
                go_region_law (refine step_word rfl _ _ rfl lo ws.length (.slice sw ws.length cw) (wdC text ws) ⟨cur.toArray⟩ (p1 : Int) ((p2 : Int) - ((i : Int) - (fm : Int))) WW.heap.size rfl SCA.out.cur rfl CE.out (by omega) SCA.out.size ?_; intro v6 w6 o6 g6; rw [EQ.out] at o6; obtain ⟨l6, a6, s6⟩ := SCA.out.push (y := (cur, fm)) o6 g6 hyi.out; obtain ⟨sv6, cv6, rfl⟩ := own_shape o6; rw [HE.out] at l6; rw [← HP1.out, ← HP2.out] at s6; have a6' : w6.heap[w.heap.size + 1 + 1]? = some (.cells #[.int .i64 (p1 : Int), .int .i64 (p2 : Int)] 28 (0, 0)) := (by rw [HP1.out, HP2.out]; exact a6); have cl6 := fun j => cell_row l6 j; have ca6 := fun j => cell_row a6' j; have fl6 := fun j => unfrozen_row l6 j; have fa6 := fun j => unfrozen_row a6' j; have zl6 := (Array.getElem?_eq_some_iff.1 l6).1; have za6 := (Array.getElem?_eq_some_iff.1 a6').1; have SC6 := hid s6; clear l6 a6 a6' s6 o6 g6)
                all_goals
                  rw [FO.out] at NX
                  have TK6 := hid (SC6.out.tick c HC.out h10)
                  rw [← HP2.out] at TK6
                  go_wp2
                  go_roundg (text.length - i)
                  case measure => have := HK.out; omega
                  case rel => exact ⟨lo, ls, ws ++ [(cur, fm)], _, [], false, i + 1, by omega, by omega, by simp; omega, by go_num, rfl, rfl, TK6.out, NX.out⟩
            | false =>
              have NX := hid (HPI.out.more HC.out h10 h35 hbl)
              have hfn : Hid (fromI (cur ++ [c]) (i + 1) = ((i - cur.length : Nat) : Int)) := by
                show _ = _
                unfold fromI
                rw [if_neg (by simp)]
                simp
              by_cases hcur : cur = []
              · subst hcur
                have hfr : fromI ([] : List UInt8) i = -1 := rfl
                rw [hfr]
                go_wp2_with (go_at_call 19; with_reducible refine Calls.mono (BC _).out ?_; rintro e wb ⟨rfl, hwb⟩; rw [hwb, hbl])
                go_roundg (text.length - i)
                case measure => have := HK.out; omega
                case rel => exact ⟨lo, ls, ws, _, [] ++ [c], false, i + 1, by omega, by omega, by omega, by go_num, rfl, by rw [hfn.out]; rfl, TK.out, NX.out⟩
              · obtain ⟨fm, hfm⟩ : ∃ fm, fm = i - cur.length := ⟨_, rfl⟩
                have hfr : fromI cur i = (fm : Int) := by unfold fromI; rw [if_neg hcur, hfm]
                rw [hfr]
                have hf0 : ¬ ((fm : Int) < 0) := by omega
                have HFM := hid hfm
                clear hfm hfr
                go_wp2_with (go_at_call 19; with_reducible refine Calls.mono (BC _).out ?_; rintro e wb ⟨rfl, hwb⟩; rw [hwb, hbl])
                go_roundg (text.length - i)
                case measure => have := HK.out; omega
                case rel => exact ⟨lo, ls, ws, _, cur ++ [c], false, i + 1, by omega, by omega, by omega, by go_num, rfl, by rw [hfn.out, HFM.out], TK.out, NX.out⟩
    · have hil : i = text.length := by omega
      have HIL := hid hil
      have BC : ∀ W, Hid (Calls Tryd.prog 19 #[.int .u8 10] W fun e w' => e = .returned (.bool (blankB 10)) ∧ w' = W) := fun W => hid (BLK 10 W).out
      have hbl : blankB 10 = false := by decide
      have hiI : ¬ ((i : Int) < (text.length : Int)) := by omega
      have hiI2 : (i : Int) ≤ (text.length : Int) := by omega
      have hiN : ((i : Int) == (text.length : Int)) = true := by rw [beq_iff_eq]; omega
      clear BLK hil
      cases note with
      | true =>
        have h0 := HPI.out.rem rfl
        subst h0
        have hfr : fromI ([] : List UInt8) i = -1 := rfl
        rw [hfr]
        have NX0 := HPI.out.last HIL.out
        rw [flO_nil, List.append_nil] at NX0
        by_cases hws0 : ws = []
        · subst hws0
          have hwv := HSC.out.nil rfl
          simp only [Value.slice.injEq, List.length_nil, true_and] at hwv
          obtain ⟨rfl, rfl⟩ := hwv
          obtain ⟨Y, hY⟩ : ∃ Y, Y = ((WW.setCell ⟨w.heap.size + 1, 0, none⟩ (.slice none 0 0)).setCell ⟨w.heap.size + 1, 1, none⟩ (.int .i64 0)).setCell ⟨w.heap.size + 1, 2, none⟩ (.int .i64 0) := ⟨_, rfl⟩
          have sy : Sc w Y text lo ls (.slice so ls.length co) [] (.slice none 0 0) i := by rw [hY]; exact HSC.out.again rfl
          have NX : Hid (ls.map Prod.fst = linesO text) := by
            have q := NX0
            rw [show emitO ([] : List Wd) = [] from rfl, List.append_nil] at q
            exact q.symm
          have HY := hid hY
          clear NX0 hY
          have ay : Y.heap[w.heap.size + 1 + 1]? = some (.cells #[.int .i64 (p1 : Int), .int .i64 (p2 : Int)] 28 (0, 0)) := (by rw [HP1.out, HP2.out]; exact sy.arow); have cay := fun j => cell_row ay j; have fay := fun j => unfrozen_row ay j; have cry := fun j => cell_row sy.rrow j; have fry := fun j => unfrozen_row sy.rrow j; have zay := (Array.getElem?_eq_some_iff.1 ay).1; have zry := (Array.getElem?_eq_some_iff.1 sy.rrow).1; have SY := hid sy; have cayd : ∀ j, Y.drew.cell? ⟨w.heap.size + 1 + 1, j, none⟩ = #[Value.int .i64 (p1 : Int), .int .i64 (p2 : Int)][j]? := cay; have cryd : ∀ j, Y.drew.cell? ⟨w.heap.size, j, none⟩ = #[Value.int .i64 0, .int .i64 0][j]? := cry; have fryd : ∀ j, Y.drew.frozen? ⟨w.heap.size, j, none⟩ = false := fry; clear ay sy
          go_wp2_with (first | (have q := HY; clear q; rw [← HY.out]; clear HY))
          have FN := hid (SY.out.fin HIL.out NX.out)
          rw [← HP1.out, ← HP2.out] at FN
          go_region
          all_goals go_wp2
          all_goals exact bodyPost_ret (v := .tuple #[_, .agg #[.int .i64 (p1 : Int), .int .i64 (p2 : Int)]]) (by simp [results, Tryd.results11, go_sem, cry]) rfl FN.out
        · have hpos : (0 : Int) < (ws.length : Int) := by have := List.length_pos_iff.2 hws0; omega
          have HNE := hid hws0
          have SCB := hid (HSC.out.on ((Below.refl _ _).alloc (Nat.le_refl _) (Obj.cells #[.slice sw ws.length cw, .int .i64 ea, .int .i64 eb] 53)))
          have CEB : Hid ((WW.alloc (Obj.cells #[.slice sw ws.length cw, .int .i64 ea, .int .i64 eb] 53)).heap[WW.heap.size]? = some (.cells #[.slice sw ws.length cw, .int .i64 ea, .int .i64 eb] 53 (0, 0))) := heap_alloc_new WW _
          have NX : Hid ((ls ++ [(ws, Value.slice sw ws.length cw)]).map Prod.fst = linesO text) := by
            have q := NX0
            rw [emitO_some hws0] at q
            rw [List.map_append]
            exact q.symm
          have HEN : Hid ((Value.slice sw ws.length cw :: enC text ws) = [.slice sw ws.length cw, .int .i64 ea, .int .i64 eb]) := by show _ = _; rw [HE.out]
          clear NX0 hws0
          go_wp2_with (first | (have q := HY; clear q; rw [← HY.out]; clear HY) | (at_builtin; refine app_ln rfl _ _ rfl (w.heap.size + 3) ls.length (.slice so ls.length co) (lnC text ls) (.slice sw ws.length cw) rfl ea eb WW.heap.size rfl SCB.out.out rfl CEB.out (by omega) (by have := SCB.out.low; have := SCB.out.size; omega) ?_; intro v7 w7 o7 g7; rw [← HEN.out] at o7; obtain ⟨l7, a7, sy0⟩ := SCB.out.line HNE.out o7 g7; obtain ⟨sv7, cv7, rfl⟩ := own_shape o7; rw [HEN.out] at l7; have cl7 := fun j => cell_row l7 j; have fl7 := fun j => unfrozen_row l7 j; have zl7 := (Array.getElem?_eq_some_iff.1 l7).1; obtain ⟨Y, hY⟩ : ∃ Y, Y = ((w7.setCell ⟨w.heap.size + 1, 0, none⟩ (.slice none 0 0)).setCell ⟨w.heap.size + 1, 1, none⟩ (.int .i64 0)).setCell ⟨w.heap.size + 1, 2, none⟩ (.int .i64 0) := ⟨_, rfl⟩; have sy : Sc w Y text w7.heap.size (ls ++ [(ws, .slice sw ws.length cw)]) (.slice sv7 (ls.length + 1) cv7) [] (.slice none 0 0) i := (by rw [hY]; exact sy0); have HY := hid hY; have ay : Y.heap[w.heap.size + 1 + 1]? = some (.cells #[.int .i64 (p1 : Int), .int .i64 (p2 : Int)] 28 (0, 0)) := (by rw [HP1.out, HP2.out]; exact sy.arow); have cay := fun j => cell_row ay j; have fay := fun j => unfrozen_row ay j; have cry := fun j => cell_row sy.rrow j; have fry := fun j => unfrozen_row sy.rrow j; have zay := (Array.getElem?_eq_some_iff.1 ay).1; have zry := (Array.getElem?_eq_some_iff.1 sy.rrow).1; have SY := hid sy; have cayd : ∀ j, Y.drew.cell? ⟨w.heap.size + 1 + 1, j, none⟩ = #[Value.int .i64 (p1 : Int), .int .i64 (p2 : Int)][j]? := cay; have cryd : ∀ j, Y.drew.cell? ⟨w.heap.size, j, none⟩ = #[Value.int .i64 0, .int .i64 0][j]? := cry; have fryd : ∀ j, Y.drew.frozen? ⟨w.heap.size, j, none⟩ = false := fry; clear ay sy; clear l7 a7 sy0 o7 g7 hY))
          have FN := hid (SY.out.fin HIL.out NX.out)
          rw [← HP1.out, ← HP2.out] at FN
          go_region
          all_goals go_wp2
          all_goals exact bodyPost_ret (v := .tuple #[_, .agg #[.int .i64 (p1 : Int), .int .i64 (p2 : Int)]]) (by simp [results, Tryd.results11, go_sem, cry]) rfl FN.out
      | false =>
        by_cases hcur : cur = []
        · subst hcur
          have hfr : fromI ([] : List UInt8) i = -1 := rfl
          rw [hfr]
          have NX0 := HPI.out.last HIL.out
          rw [flO_nil, List.append_nil] at NX0
          by_cases hws0 : ws = []
          · subst hws0
            have hwv := HSC.out.nil rfl
            simp only [Value.slice.injEq, List.length_nil, true_and] at hwv
            obtain ⟨rfl, rfl⟩ := hwv
            obtain ⟨Y, hY⟩ : ∃ Y, Y = ((WW.setCell ⟨w.heap.size + 1, 0, none⟩ (.slice none 0 0)).setCell ⟨w.heap.size + 1, 1, none⟩ (.int .i64 0)).setCell ⟨w.heap.size + 1, 2, none⟩ (.int .i64 0) := ⟨_, rfl⟩
            have sy : Sc w Y text lo ls (.slice so ls.length co) [] (.slice none 0 0) i := by rw [hY]; exact HSC.out.again rfl
            have NX : Hid (ls.map Prod.fst = linesO text) := by
              have q := NX0
              rw [show emitO ([] : List Wd) = [] from rfl, List.append_nil] at q
              exact q.symm
            have HY := hid hY
            clear NX0 hY
            have ay : Y.heap[w.heap.size + 1 + 1]? = some (.cells #[.int .i64 (p1 : Int), .int .i64 (p2 : Int)] 28 (0, 0)) := (by rw [HP1.out, HP2.out]; exact sy.arow); have cay := fun j => cell_row ay j; have fay := fun j => unfrozen_row ay j; have cry := fun j => cell_row sy.rrow j; have fry := fun j => unfrozen_row sy.rrow j; have zay := (Array.getElem?_eq_some_iff.1 ay).1; have zry := (Array.getElem?_eq_some_iff.1 sy.rrow).1; have SY := hid sy; have cayd : ∀ j, Y.drew.cell? ⟨w.heap.size + 1 + 1, j, none⟩ = #[Value.int .i64 (p1 : Int), .int .i64 (p2 : Int)][j]? := cay; have cryd : ∀ j, Y.drew.cell? ⟨w.heap.size, j, none⟩ = #[Value.int .i64 0, .int .i64 0][j]? := cry; have fryd : ∀ j, Y.drew.frozen? ⟨w.heap.size, j, none⟩ = false := fry; clear ay sy
            go_wp2_with (first | (have q := HY; clear q; rw [← HY.out]; clear HY) | (go_at_call 19; with_reducible refine Calls.mono (BC _).out ?_; rintro e wb ⟨rfl, hwb⟩; rw [hwb, hbl]))
            have FN := hid (SY.out.fin HIL.out NX.out)
            rw [← HP1.out, ← HP2.out] at FN
            go_region
            all_goals go_wp2
            all_goals exact bodyPost_ret (v := .tuple #[_, .agg #[.int .i64 (p1 : Int), .int .i64 (p2 : Int)]]) (by simp [results, Tryd.results11, go_sem, cry]) rfl FN.out
          · have hpos : (0 : Int) < (ws.length : Int) := by have := List.length_pos_iff.2 hws0; omega
            have HNE := hid hws0
            have SCB := hid (HSC.out.on ((Below.refl _ _).alloc (Nat.le_refl _) (Obj.cells #[.slice sw ws.length cw, .int .i64 ea, .int .i64 eb] 53)))
            have CEB : Hid ((WW.alloc (Obj.cells #[.slice sw ws.length cw, .int .i64 ea, .int .i64 eb] 53)).heap[WW.heap.size]? = some (.cells #[.slice sw ws.length cw, .int .i64 ea, .int .i64 eb] 53 (0, 0))) := heap_alloc_new WW _
            have NX : Hid ((ls ++ [(ws, Value.slice sw ws.length cw)]).map Prod.fst = linesO text) := by
              have q := NX0
              rw [emitO_some hws0] at q
              rw [List.map_append]
              exact q.symm
            have HEN : Hid ((Value.slice sw ws.length cw :: enC text ws) = [.slice sw ws.length cw, .int .i64 ea, .int .i64 eb]) := by show _ = _; rw [HE.out]
            clear NX0 hws0
            go_wp2_with (first | (have q := HY; clear q; rw [← HY.out]; clear HY) | (at_builtin; refine app_ln rfl _ _ rfl (w.heap.size + 3) ls.length (.slice so ls.length co) (lnC text ls) (.slice sw ws.length cw) rfl ea eb WW.heap.size rfl SCB.out.out rfl CEB.out (by omega) (by have := SCB.out.low; have := SCB.out.size; omega) ?_; intro v7 w7 o7 g7; rw [← HEN.out] at o7; obtain ⟨l7, a7, sy0⟩ := SCB.out.line HNE.out o7 g7; obtain ⟨sv7, cv7, rfl⟩ := own_shape o7; rw [HEN.out] at l7; have cl7 := fun j => cell_row l7 j; have fl7 := fun j => unfrozen_row l7 j; have zl7 := (Array.getElem?_eq_some_iff.1 l7).1; obtain ⟨Y, hY⟩ : ∃ Y, Y = ((w7.setCell ⟨w.heap.size + 1, 0, none⟩ (.slice none 0 0)).setCell ⟨w.heap.size + 1, 1, none⟩ (.int .i64 0)).setCell ⟨w.heap.size + 1, 2, none⟩ (.int .i64 0) := ⟨_, rfl⟩; have sy : Sc w Y text w7.heap.size (ls ++ [(ws, .slice sw ws.length cw)]) (.slice sv7 (ls.length + 1) cv7) [] (.slice none 0 0) i := (by rw [hY]; exact sy0); have HY := hid hY; have ay : Y.heap[w.heap.size + 1 + 1]? = some (.cells #[.int .i64 (p1 : Int), .int .i64 (p2 : Int)] 28 (0, 0)) := (by rw [HP1.out, HP2.out]; exact sy.arow); have cay := fun j => cell_row ay j; have fay := fun j => unfrozen_row ay j; have cry := fun j => cell_row sy.rrow j; have fry := fun j => unfrozen_row sy.rrow j; have zay := (Array.getElem?_eq_some_iff.1 ay).1; have zry := (Array.getElem?_eq_some_iff.1 sy.rrow).1; have SY := hid sy; have cayd : ∀ j, Y.drew.cell? ⟨w.heap.size + 1 + 1, j, none⟩ = #[Value.int .i64 (p1 : Int), .int .i64 (p2 : Int)][j]? := cay; have cryd : ∀ j, Y.drew.cell? ⟨w.heap.size, j, none⟩ = #[Value.int .i64 0, .int .i64 0][j]? := cry; have fryd : ∀ j, Y.drew.frozen? ⟨w.heap.size, j, none⟩ = false := fry; clear ay sy; clear l7 a7 sy0 o7 g7 hY) | (go_at_call 19; with_reducible refine Calls.mono (BC _).out ?_; rintro e wb ⟨rfl, hwb⟩; rw [hwb, hbl]))
            have FN := hid (SY.out.fin HIL.out NX.out)
            rw [← HP1.out, ← HP2.out] at FN
            go_region
            all_goals go_wp2
            all_goals exact bodyPost_ret (v := .tuple #[_, .agg #[.int .i64 (p1 : Int), .int .i64 (p2 : Int)]]) (by simp [results, Tryd.results11, go_sem, cry]) rfl FN.out
        · obtain ⟨fm, hfm⟩ : ∃ fm, fm = i - cur.length := ⟨_, rfl⟩
          have hfr : fromI cur i = (fm : Int) := by unfold fromI; rw [if_neg hcur, hfm]
          rw [hfr]
          have hfl : (fm : Int) ≤ (i : Int) := by omega
          have hfl2 : fm ≤ i := by omega
          have hf0 : ¬ ((fm : Int) < 0) := by omega
          have hf1 : (0 : Int) ≤ (fm : Int) := by omega
          obtain ⟨hex, hspt⟩ := HPI.out.word
          rw [← hfm] at hex hspt
          have EQ : Hid ([Value.string ⟨cur.toArray⟩, .int .i64 (p1 : Int), .int .i64 ((p2 : Int) - ((i : Int) - (fm : Int)))] = str cur :: spI text fm) := by
            show _ = _
            have e1 : p1 = (spotN (text.take fm)).1 := by rw [HP1.out, hspt]
            have e2 : p2 = (spotN (text.take fm)).2 + cur.length := by rw [HP2.out, hspt]
            unfold spI
            rw [← e1, show (p2 : Int) - ((i : Int) - (fm : Int)) = ((spotN (text.take fm)).2 : Int) by omega]
          have SCA := hid ((HSC.out.on ((Below.refl _ _).alloc (Nat.le_refl _) (Obj.cells #[.string ⟨cur.toArray⟩, .int .i64 (p1 : Int), .int .i64 ((p2 : Int) - ((i : Int) - (fm : Int)))] 71))).drew)
          have CE : Hid ((WW.alloc (Obj.cells #[.string ⟨cur.toArray⟩, .int .i64 (p1 : Int), .int .i64 ((p2 : Int) - ((i : Int) - (fm : Int)))] 71)).drew.heap[WW.heap.size]? = some (.cells #[.string ⟨cur.toArray⟩, .int .i64 (p1 : Int), .int .i64 ((p2 : Int) - ((i : Int) - (fm : Int)))] 71 (0, 0))) := heap_alloc_new WW _
          have hyi : Hid (fm + cur.length = i) := by show _ = _; omega
          have FO : Hid (flO i cur = [(cur, fm)]) := by show _ = _; rw [flO_some hcur, hfm]
          have hsl : (fm : Int) ≤ (text.length : Int) := by omega
          have hw1 : IntKind.i64.wrap ((i : Int) - (fm : Int)) = (i : Int) - (fm : Int) := by rw [IntKind.wrap_i64]; omega
          have hw2 : IntKind.i64.wrap ((p2 : Int) - ((i : Int) - (fm : Int))) = (p2 : Int) - ((i : Int) - (fm : Int)) := by rw [IntKind.wrap_i64]; omega
          clear hspt hfm hfr
          go_wp2_with (go_at_call 19; with_reducible refine Calls.mono (BC _).out ?_; rintro e wb ⟨rfl, hwb⟩; rw [hwb, hbl])
          go_region_law (refine step_word rfl _ _ rfl lo ws.length (.slice sw ws.length cw) (wdC text ws) ⟨cur.toArray⟩ (p1 : Int) ((p2 : Int) - ((i : Int) - (fm : Int))) WW.heap.size rfl SCA.out.cur rfl CE.out (by omega) SCA.out.size ?_; intro v6 w6 o6 g6; rw [EQ.out] at o6; obtain ⟨l6, a6, s6⟩ := SCA.out.push (y := (cur, fm)) o6 g6 hyi.out; obtain ⟨sv6, cv6, rfl⟩ := own_shape o6; rw [HE.out] at l6; rw [← HP1.out, ← HP2.out] at s6; have a6' : w6.heap[w.heap.size + 1 + 1]? = some (.cells #[.int .i64 (p1 : Int), .int .i64 (p2 : Int)] 28 (0, 0)) := (by rw [HP1.out, HP2.out]; exact a6); have cl6 := fun j => cell_row l6 j; have ca6 := fun j => cell_row a6' j; have fl6 := fun j => unfrozen_row l6 j; have fa6 := fun j => unfrozen_row a6' j; have zl6 := (Array.getElem?_eq_some_iff.1 l6).1; have za6 := (Array.getElem?_eq_some_iff.1 a6').1; obtain ⟨X6, hX6⟩ : ∃ X6, X6 = ((w6.setCell ⟨w.heap.size + 1, 0, none⟩ (.slice sv6 (ws.length + 1) cv6)).setCell ⟨w.heap.size + 1, 1, none⟩ (.int .i64 (p1 : Int))).setCell ⟨w.heap.size + 1, 2, none⟩ (.int .i64 (p2 : Int)) := ⟨_, rfl⟩; rw [← hX6] at s6; have lx := s6.lrow; rw [enC_snoc, hyi.out] at lx; unfold spI at lx; rw [← HP1.out, ← HP2.out] at lx; have clx := fun j => cell_row lx j; have flx := fun j => unfrozen_row lx j; have zlx := (Array.getElem?_eq_some_iff.1 lx).1; have SX6 := hid s6; have HX6 := hid hX6; clear l6 a6 a6' s6 o6 g6 lx hX6)
          all_goals
            have HNE : Hid (ws ++ [(cur, fm)] ≠ []) := by show _ ≠ _; simp
            have hpos : (0 : Int) < ((ws.length + 1 : Nat) : Int) := by omega
            have SCB := hid (SX6.out.on ((Below.refl _ _).alloc (Nat.le_refl _) (Obj.cells #[.slice sv6 (ws.length + 1) cv6, .int .i64 (p1 : Int), .int .i64 (p2 : Int)] 53)))
            have CEB : Hid ((X6.alloc (Obj.cells #[.slice sv6 (ws.length + 1) cv6, .int .i64 (p1 : Int), .int .i64 (p2 : Int)] 53)).heap[X6.heap.size]? = some (.cells #[.slice sv6 (ws.length + 1) cv6, .int .i64 (p1 : Int), .int .i64 (p2 : Int)] 53 (0, 0))) := heap_alloc_new X6 _
            have NX : Hid ((ls ++ [(ws ++ [(cur, fm)], Value.slice sv6 (ws.length + 1) cv6)]).map Prod.fst = linesO text) := by
              have q := HPI.out.last HIL.out
              rw [FO.out, emitO_some (by simp)] at q
              rw [List.map_append]
              exact q.symm
            have HEN : Hid ((Value.slice sv6 (ws.length + 1) cv6 :: enC text (ws ++ [(cur, fm)])) = [.slice sv6 (ws.length + 1) cv6, .int .i64 (p1 : Int), .int .i64 (p2 : Int)]) := by show _ = _; rw [enC_snoc, hyi.out, spI, ← HP1.out, ← HP2.out]
            go_wp2_with (first | (have q := HX6; clear q; rw [← HX6.out]; clear HX6) | (have q := HY; clear q; rw [← HY.out]; clear HY) | (at_builtin; refine app_ln rfl _ _ rfl (w.heap.size + 3) ls.length (.slice so ls.length co) (lnC text ls) (.slice sv6 (ws.length + 1) cv6) rfl (p1 : Int) (p2 : Int) X6.heap.size rfl SCB.out.out rfl CEB.out (by omega) (by have := SCB.out.low; have := SCB.out.size; omega) ?_; intro v7 w7 o7 g7; rw [← HEN.out] at o7; obtain ⟨l7, a7, sy0⟩ := SCB.out.line HNE.out o7 g7; obtain ⟨sv7, cv7, rfl⟩ := own_shape o7; rw [HEN.out] at l7; have cl7 := fun j => cell_row l7 j; have fl7 := fun j => unfrozen_row l7 j; have zl7 := (Array.getElem?_eq_some_iff.1 l7).1; obtain ⟨Y, hY⟩ : ∃ Y, Y = ((w7.setCell ⟨w.heap.size + 1, 0, none⟩ (.slice none 0 0)).setCell ⟨w.heap.size + 1, 1, none⟩ (.int .i64 0)).setCell ⟨w.heap.size + 1, 2, none⟩ (.int .i64 0) := ⟨_, rfl⟩; have sy : Sc w Y text w7.heap.size (ls ++ [((ws ++ [(cur, fm)]), .slice sv6 (ws.length + 1) cv6)]) (.slice sv7 (ls.length + 1) cv7) [] (.slice none 0 0) i := (by rw [hY]; exact sy0); have HY := hid hY; have ay : Y.heap[w.heap.size + 1 + 1]? = some (.cells #[.int .i64 (p1 : Int), .int .i64 (p2 : Int)] 28 (0, 0)) := (by rw [HP1.out, HP2.out]; exact sy.arow); have cay := fun j => cell_row ay j; have fay := fun j => unfrozen_row ay j; have cry := fun j => cell_row sy.rrow j; have fry := fun j => unfrozen_row sy.rrow j; have zay := (Array.getElem?_eq_some_iff.1 ay).1; have zry := (Array.getElem?_eq_some_iff.1 sy.rrow).1; have SY := hid sy; have cayd : ∀ j, Y.drew.cell? ⟨w.heap.size + 1 + 1, j, none⟩ = #[Value.int .i64 (p1 : Int), .int .i64 (p2 : Int)][j]? := cay; have cryd : ∀ j, Y.drew.cell? ⟨w.heap.size, j, none⟩ = #[Value.int .i64 0, .int .i64 0][j]? := cry; have fryd : ∀ j, Y.drew.frozen? ⟨w.heap.size, j, none⟩ = false := fry; clear ay sy; clear l7 a7 sy0 o7 g7 hY))
            have FN := hid (SY.out.fin HIL.out NX.out)
            rw [← HP1.out, ← HP2.out] at FN
            go_region
            all_goals go_wp2
            all_goals exact bodyPost_ret (v := .tuple #[_, .agg #[.int .i64 (p1 : Int), .int .i64 (p2 : Int)]]) (by simp [results, Tryd.results11, go_sem, cry]) rfl FN.out
end Go.Proofs.YtfmmmhcpdinhgabDoor
