/-
  Both packages read the same; bytes.
-/
import Derived.Test.YtfodpeiecmbojaaH3
namespace Go.Proofs.Ytfodpeiecmbojaa
open Go.RowKit Go.Deep PureCrc

theorem own_wrow {w : World} {g m base : Nat} {ws : List Nat} (h : WRow w g ws) (hl : ws.length = 4 * m) (hb : base ≤ g) (hm : m ≤ 65536) : OwnR w base (.slice (some ⟨g, 0, none⟩) m m) m ws := by
  refine ⟨by simp [wcl]; omega, .inr ⟨g, m, wc ws, rfl, hb, h, Nat.le_refl _, by unfold maxLen; omega, by simp [wc]; omega, ?_⟩⟩
  unfold wc wcl
  rw [List.toList_toArray, List.take_of_length_le (by simp; omega)]

theorem words_small {l : List Nat} (hlt : ∀ x ∈ l, x < 256) (m : Nat) : ∀ x ∈ words m l, x < 18446744073709551616 := fun x hx => by
  have hwl := words_length m l
  obtain ⟨t, ht, rfl⟩ := List.getElem_of_mem hx
  rw [hwl] at ht
  have h1 := words_get m l t ht
  rw [List.getElem?_eq_getElem (by rw [hwl]; exact ht)] at h1
  have h2 := Option.some.inj h1
  rw [h2]
  have h3 := num_lt (l := (l.drop (8 * t)).take 8) (fun y hy => hlt y (List.mem_of_mem_drop (List.mem_of_mem_take hy)))
  have h4 : ((l.drop (8 * t)).take 8).length ≤ 8 := by rw [List.length_take]; omega
  have h5 : 256 ^ ((l.drop (8 * t)).take 8).length ≤ 256 ^ 8 := Nat.pow_le_pow_right (by decide) h4
  have h6 : (256 : Nat) ^ 8 = 18446744073709551616 := by decide
  omega

/-- both packages read the same. -/
theorem dec_pair (kind place : Int) (hp2 : I64 place) (n : Nat) (l : List Nat) (hl : l.length = n) (hlt : ∀ x ∈ l, x < 256) :
    ∃ (er : Nat) (m : Nat) (ws : List Nat), m ≤ 65536 ∧ ws.length = 4 * m ∧
      (∀ W sa c, Came W sa n c l → Calls Try.prog 9 #[.int .i64 kind, .int .i64 place, .slice sa n c] W fun e w' => ∃ sv, e = .returned (.tuple #[sv, .int .i64 (er : Int)]) ∧ OwnR w' W.heap.size sv m ws ∧ Touch [] W w') ∧
      (∀ W sa c, Came W sa n c l → Calls Try.prog 20 #[.int .i64 kind, .int .i64 place, .slice sa n c] W fun e w' => ∃ sv, e = .returned (.tuple #[sv, .int .i64 (er : Int)]) ∧ OwnR w' W.heap.size sv m ws ∧ Touch [] W w') := by
  by_cases hm : mayN kind place (n : Int)
  · obtain ⟨hm1, hm2, hm3, hm4⟩ := hm
    have hfit : 64 ≤ n ∧ n ≤ 65536 ∧ n % 32 = 0 := by
      unfold fitN at hm4
      split at hm4
      · omega
      · omega
    obtain ⟨h64, h65, h32⟩ := hfit
    obtain ⟨kn, rfl⟩ : ∃ kn : Nat, kind = (kn : Int) := ⟨kind.toNat, by omega⟩
    obtain ⟨pn, rfl⟩ : ∃ pn : Nat, place = (pn : Int) := ⟨place.toNat, by omega⟩
    have hpb := hp2.2
    subst hl
    by_cases hok : sumFits l ∧ Formed l ∧ l.getD 5 0 = kn ∧ num (PureCrc.cut l 8 8) = pn
    · obtain ⟨o1, o2, o3, o4⟩ := hok
      have hn1 := o2.some
      have hn2 := o2.many
      refine ⟨0, count l, words (4 * count l) (l.drop 28), by omega, words_length _ _, fun W sa c hc => ?_, fun W sa c hc => ?_⟩
      · obtain ⟨b, o, rfl, hb, hr⟩ := hc.at_ (by omega)
        have h := decode_ok l b o c W hr hb hlt hc.cap h64 h65 h32 (by rw [o4]; omega) o1 o2
        rw [o3, o4] at h
        exact h.mono fun e w' ⟨g, h1, h2, h3, h4⟩ => ⟨_, h1, own_wrow h2 (words_length _ _) h4 (by omega), h3⟩
      · obtain ⟨b, o, rfl, hb, hr⟩ := hc.at_ (by omega)
        have h := rdecode_ok l b o c W hr hb hlt hc.cap h64 h65 h32 (by rw [o4]; omega) o1 o2
        rw [o3, o4] at h
        exact h
    · have key : ∃ er, DecE kn pn l er := by
        by_cases a1 : sumFits l
        · by_cases a2 : Formed l
          · exact ⟨32, .inr (.inr ⟨a1, a2, fun h => hok ⟨a1, a2, h.1, h.2⟩, rfl⟩)⟩
          · exact ⟨31, .inr (.inl ⟨a1, a2, rfl⟩)⟩
        · exact ⟨30, .inl ⟨a1, rfl⟩⟩
      obtain ⟨er, he⟩ := key
      refine ⟨er, 0, [], by omega, rfl, fun W sa c hc => ?_, fun W sa c hc => ?_⟩
      · obtain ⟨b, o, rfl, hb, hr⟩ := hc.at_ (by omega)
        exact (decode_bad kn pn l b o c W hr hb hlt hc.cap h64 h65 h32 (by omega) (by omega) (by omega) er he).mono fun e w' h => ⟨_, h.1, World.ownsRow_nil _ _ _ _, h.2⟩
      · obtain ⟨b, o, rfl, hb, hr⟩ := hc.at_ (by omega)
        exact (rdecode_bad kn pn l b o c W hr hlt hc.cap h64 h65 h32 (by omega) (by omega) (by omega) er he).mono fun e w' h => ⟨_, h.1, World.ownsRow_nil _ _ _ _, by rw [h.2]; exact Touch.refl _ _⟩
  · exact ⟨1, 0, [], by omega, rfl,
      fun W sa c _ => (decode_arg kind place n c sa W hm).mono fun e w' h => ⟨_, h.1, World.ownsRow_nil _ _ _ _, by rw [h.2]; exact Touch.refl _ _⟩,
      fun W sa c _ => (rdecode_arg kind place n c sa W hm).mono fun e w' h => ⟨_, h.1, World.ownsRow_nil _ _ _ _, by rw [h.2]; exact Touch.refl _ _⟩⟩

theorem append_nil_nilB (ty : TypeId) (w : World) (a : Option Addr) (c : Nat) : (Builtin.append_ #[22, 22] ty #[.slice none 0 0, .slice a 0 c]).run Try.prog w = .ok (.slice none 0 0) w := by
  obtain ⟨i, hi, hz0, hz1, hz2⟩ := info_parts Try.info5b
  cases a <;> simp [Builtin.append_, run_underlying Try.underlying22, sizeOf, typeInfo, hi, Builtin.lenOf, Builtin.firstCells, loadCells, loadCellsFrom]

theorem run_copyB (ty : TypeId) (w : World) {sa : Option Addr} {n c : Nat} {l : List Nat} (h : Came w sa n c l) (hn : n ≤ 140737488355000) :
    ∃ v w', (Builtin.append_ #[22, 22] ty #[.slice none 0 0, .slice sa n c]).run Try.prog w = .ok v w' ∧ OwnB w' w.heap.size v l ∧ Below w.heap.size w w' := by
  have hl := h.len
  subst hl
  by_cases h0 : l.length = 0
  · have hd : l = [] := List.eq_nil_of_length_eq_zero h0
    subst hd
    exact ⟨_, _, append_nil_nilB ty w sa c, World.ownsRow_nil _ _ _ _, Below.refl _ _⟩
  · obtain ⟨b, o, rfl, hb, hw⟩ := h.at_ (by omega)
    obtain ⟨i, hi, hz0, hz1, hz2⟩ := info_parts Try.info5b
    obtain ⟨v', w', hr, ho, hg, _⟩ := run_append_own (P := Try.prog) w w.heap.size 22 ty 5 i _ 1 1 Try.underlying22 hi hz0 hz1 hz2 rfl (by decide) (.slice none 0 0) 0 [] (World.ownsRow_nil _ _ _ _) ⟨b, o, none⟩ l.length c (bcl l) (by simp [bcl])
      (fun j u hu => by
        simp only [bcl, List.getElem?_map] at hu
        obtain ⟨y, hy, rfl⟩ := Option.map_eq_some_iff.1 hu
        obtain ⟨hj, rfl⟩ := List.getElem?_eq_some_iff.1 hy
        have ha : (⟨b, o, none⟩ : Addr).add j = ⟨b, o + j, none⟩ := by unfold Addr.add; split <;> simp_all
        rw [ha]
        exact hw j hj) (fun u hu => by obtain ⟨y, _, rfl⟩ := List.mem_map.1 hu; rfl) (by unfold maxLen; omega) (by omega) (Nat.le_refl _)
    refine ⟨v', w', hr, ?_, below_grown hg (by simp [Value.ownBlock]) (Nat.le_refl _)⟩
    simpa using ho

theorem wpList_copyB (w : World) {ops : Array Oper} {rest : List Oper} {o : Oper} {a : Act} {Q : Exit → Act → World → Prop} (hgd : o.guard = none) (x : Operand)
    (hop : o.op = Op.call { callee := Callee.builtin Builtin.append, args := #[.const (.slice none 0 0), x], argTypes := #[22, 22] })
    (sa : Option Addr) (n c : Nat) (l : List Nat) (hx : a.eval x = .slice sa n c) (h : Came w sa n c l) (hn : n ≤ 140737488355000)
    (hK : ∀ v' w', OwnB w' w.heap.size v' l → Below w.heap.size w w' → wpList Try.prog ops Q rest (a.put o.dst v') w') : wpList Try.prog ops Q (o :: rest) a w := by
  refine wpList_plain hgd fun K' hK' => ?_
  obtain ⟨v', w', hrun, ho, hb⟩ := run_copyB (c := c) o.type w h hn
  have hs : a.eval (.const (.slice none 0 0)) = .slice none 0 0 := rfl
  unfold Oper.wp
  simp [execOp, hop, resolve, invoke, builtin, hs, hx, hrun, Result.andThen]
  exact hK' _ _ (hK v' w' ho hb)

theorem cells3b (W : World) : ∀ j (h : j < [111, 112, 113].length), (W.alloc (.cells #[.int .u8 111, .int .u8 112, .int .u8 113] 5)).cell? ((⟨W.heap.size, 0, none⟩ : Addr).add j) = some (.int .u8 (([111, 112, 113][j] : Nat) : Int)) := fun j h => by
  have ha : (⟨W.heap.size, 0, none⟩ : Addr).add j = ⟨W.heap.size, j, none⟩ := by unfold Addr.add; split <;> simp_all
  rw [ha, cell_row (heap_alloc_new W _)]
  simp at h
  have : j = 0 ∨ j = 1 ∨ j = 2 := by omega
  rcases this with rfl | rfl | rfl <;> rfl

theorem wpList_app3 (w : World) {ops : Array Oper} {rest : List Oper} {o : Oper} {a : Act} {Q : Exit → Act → World → Prop} (hgd : o.guard = none) (s x : Operand)
    (hop : o.op = Op.call { callee := Callee.builtin Builtin.append, args := #[s, x], argTypes := #[22, 22] })
    (base : Nat) (v : Value) (l : List Nat) (ad : Addr) (news : List Nat) (m c : Nat) (hs : a.eval s = v) (hx : a.eval x = .slice (some ad) m c) (hml : news.length = m) (hown : OwnB w base v l) (hc : ∀ j (h : j < news.length), w.cell? (ad.add j) = some (.int .u8 (news[j] : Int)))
    (hm : 0 < m) (hn : l.length + m ≤ 140737488355328) (hb : base ≤ w.heap.size)
    (hK : ∀ v' w', OwnB w' base v' (l ++ news) → Below base w w' → wpList Try.prog ops Q rest (a.put o.dst v') w') : wpList Try.prog ops Q (o :: rest) a w := by
  obtain ⟨i, h0, hz0, hz1, hz2⟩ := info_parts Try.info5b
  refine wpList_append_lies w hgd s x 22 hop base 5 i (.int .u8 0) 1 1 Try.underlying22 h0 hz0 hz1 hz2 rfl (by decide) v l.length (bcl l) hs hown ad m c (bcl news) hx (by simp [bcl, hml])
    (fun j u hu => ?_) (fun u hu => ?_) hm (by unfold maxLen; omega) (by omega) hb _ rfl (fun g cap w' r1 r2 r3 _ => hK _ w' ?_ (below_grown r2 (fun k hk => (hown.lt k hk).1) hb))
  · simp only [bcl, List.getElem?_map] at hu
    obtain ⟨y, hy, rfl⟩ := Option.map_eq_some_iff.1 hu
    obtain ⟨hj, rfl⟩ := List.getElem?_eq_some_iff.1 hy
    exact hc j hj
  · obtain ⟨y, _, rfl⟩ := List.mem_map.1 hu
    rfl
  · have e : bcl (l ++ news) = bcl l ++ bcl news := by simp [bcl]
    unfold OwnB
    rw [e, List.length_append, hml]
    exact r1

set_option maxRecDepth 100000 in
set_option maxHeartbeats 1000000 in
theorem bytes_any {w : World} {sa : Option Addr} {n c : Nat} {l : List Nat} (h : Came w sa n c l) (hn : n ≤ 140737488355000) :
    Calls Try.prog 19 #[.slice sa n c] w fun e w' => ∃ sv, e = .returned sv ∧ OwnB w' w.heap.size sv (l ++ [111, 112, 113]) ∧ Touch [] w w' := by
  have HR := hid h
  have HL := hid h.len
  clear h
  go_enter Try.func19, Try.ntmps19
  go_wp2_with (first
    | (at_builtin; refine wpList_copyB _ rfl _ rfl sa n c l rfl HR.out hn ?_; intro v1 w1 r1 r2; have O1 := hid (r1.alloc (.cells #[.int .u8 111, .int .u8 112, .int .u8 113] 5)); have B1 := hid r2; have C1 := hid (cells3b w1); clear r1 r2)
    | (at_builtin; refine wpList_app3 _ rfl _ _ rfl w.heap.size _ l ⟨w1.heap.size, 0, none⟩ [111, 112, 113] 3 3 rfl rfl rfl O1.out C1.out (by omega) (by have := HL.out; omega) (by have := B1.out.size; simp; omega) ?_; intro v2 w2 r1 r2; have O2 := hid r1; have B2 := hid ((B1.out.alloc (B1.out.size) _).trans r2); clear r1 r2))
  go_ret
  exact ⟨_, rfl, O2.out, Touch.of_below B2.out (Nat.le_refl _)⟩
end Go.Proofs.Ytfodpeiecmbojaa
