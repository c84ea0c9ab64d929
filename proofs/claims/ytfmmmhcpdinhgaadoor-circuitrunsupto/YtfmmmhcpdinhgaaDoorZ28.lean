import Derived.Test.YtfmmmhcpdinhgaaDoorZ27
/-
  CircuitRuns: what the law has in hand.
-/
namespace Go.Proofs.YtfmmmhcpdinhgaaDoor
open Go.RowKit Go.Deep PureNet ShfKit
set_option maxRecDepth 100000

theorem RunOut.below {W W' : World} {B : Nat} {lv : Value} {vs : List (Value × List Bool)} (h : RunOut W B lv vs) (hb : Below W.heap.size W W') : RunOut W' B lv vs := ⟨ownsRow_below h.row hb, h.fam.below hb⟩
theorem RunOut.lists {W : World} {B n c : Nat} {s : Option Addr} {vs : List (Value × List Bool)} (h : RunOut W B (.slice s n c) vs) : ListsAt W s (vs.map Prod.snd) := ⟨fun k l hl => by
  rw [List.getElem?_map, Option.map_eq_some_iff] at hl
  obtain ⟨y, hy, rfl⟩ := hl
  obtain ⟨sa, c1, hv, hc, _⟩ := own_cells h.row
  cases hv
  obtain ⟨g, o, e, hlt, hce⟩ := hc.at_ k y.1 (by rw [List.getElem?_map, hy]; rfl)
  have ho := h.fam.own k (rwOf y) (by rw [List.getElem?_map, hy]; rfl)
  obtain ⟨sb, cb, hv2, hc2, hn2, _⟩ := own_cells ho
  refine ⟨g, o, sb, cb, e, hlt, ?_, hc2, hn2⟩
  rw [hce]
  exact congrArg some hv2⟩
theorem Ls.lists {w W : World} {n c : Nat} {s : Option Addr} {vs : List (Value × List Bool)} (h : Ls w W (.slice s n c) vs) : ListsAt W s (vs.map Prod.snd) := ⟨fun k l hl => by
  rw [List.getElem?_map, Option.map_eq_some_iff] at hl
  obtain ⟨y, hy, rfl⟩ := hl
  obtain ⟨sa, c1, hv, hc, _⟩ := own_cells h.row.own
  cases hv
  obtain ⟨g, o, e, hlt, hce⟩ := hc.at_ k y.1 (by rw [List.getElem?_map, hy]; rfl)
  obtain ⟨sb, cb, hv2, hc2, hn2, _⟩ := own_cells (h.each y (List.mem_of_getElem? hy))
  refine ⟨g, o, sb, cb, e, hlt, ?_, hc2, hn2⟩
  rw [hce]
  exact congrArg some hv2⟩
/-- what the document's Run answers. -/
def RRunSays (c : Net) (is : List (List Bool)) (w : World) (e : Ending) (w' : World) : Prop := ∃ lv vs r, RunR c is (vs.map Prod.snd) r ∧ e = .returned (.tuple #[lv, .int .i64 r]) ∧ Ls w w' lv vs
theorem rrun_gen (c : Net) (sg so : Option Addr) (cg co : Nat) (is : List (List Bool)) (si : Option Addr) (ci : Nat) (w : World) (hc : CirAt w c sg so) (hn : c.name.size ≤ 140737488351232) (hns : ∀ g ∈ c.gates, g.name.size ≤ 140737488351232) (hl : c.gates.length ≤ 1099511627776) (hlo : c.outs.length ≤ 1099511627776) (hi : ListsAt w si is) (hil : is.length ≤ 5864062014634) :
    Calls Tryd.prog 36 #[cirV c sg cg so co, .slice si is.length ci] w fun e w' => RRunSays c is w e w' ∧ Below w.heap.size w w' := by
  refine (rrun_any c sg so cg co is si ci w hc hn hns hl hlo hi hil).mono ?_
  rintro e w' ⟨h, hb⟩
  refine ⟨?_, hb⟩
  rcases h with ⟨hf, rfl⟩ | ⟨hf, ha, rfl⟩ | ⟨hf, ha, lv, vs, hr, rfl, hls⟩
  · exact ⟨_, [], 144, ⟨fun _ => ⟨rfl, rfl⟩, fun h => absurd h hf, fun h => absurd h hf⟩, rfl, Ls.nil _ _ hb⟩
  · exact ⟨_, [], 1, ⟨fun h => absurd hf h, fun _ _ => ⟨rfl, rfl⟩, fun _ h => absurd ha (fun ⟨l, hl, hne⟩ => hne (h l hl))⟩, rfl, Ls.nil _ _ hb⟩
  · exact ⟨lv, vs, 0, ⟨fun h => absurd hf h, fun _ ⟨l, hl, hne⟩ => absurd (ha l hl) hne, fun _ _ => ⟨hr, rfl⟩⟩, rfl, hls⟩
/-- a family stays where a row of another kind grows. -/
theorem fam_far {W W' : World} {B B' e e' size size' n : Nat} {L : List Rw} {v v' : Value} {xs : List Value} (h : Fam W B e size L) (hf : Far W W' v v') (hv : W.ownsRow B' e' size' v n xs) (hne : e ≠ e') : Fam W' B e size L := ⟨fun i x hx => hf.other hv (h.own i x hx) hne, h.apart⟩
/-- one list more. -/
theorem RunOut.push {W W' : World} {B n c : Nat} {s : Option Addr} {lv' o : Value} {l : List Bool} {vs : List (Value × List Bool)} (hrow : W.ownsRow B 29 1 (.slice s n c) n (vs.map Prod.fst)) (hlen : vs.length = n) (hfam : Fam W B 4 1 ((vs ++ [(o, l)]).map rwOf)) (ho : W'.ownsRow B 29 1 lv' (n + 1) (vs.map Prod.fst ++ [o])) (hf : Far W W' (.slice s n c) lv') : RunOut W' B lv' (vs ++ [(o, l)]) := by
  refine ⟨?_, fam_far hfam hf hrow (by decide)⟩
  rw [List.length_append, List.map_append, hlen]
  exact ho
/-- two lists, one by one in turn. -/
def inter {α : Type} (l m : List α) (i : Nat) : List α := ((l.zip m).take i).flatMap fun p => [p.1, p.2]
theorem pairs_at {α : Type} : ∀ (L : List (α × α)) (j : Nat) (x : α), (L.flatMap fun p => [p.1, p.2])[j]? = some x → ∃ p, L[j / 2]? = some p ∧ x = if j % 2 = 0 then p.1 else p.2
  | [], j, x, h => by simp at h
  | p :: L, 0, x, h => by simp at h; exact ⟨p, by simp, by simpa using h.symm⟩
  | p :: L, 1, x, h => by simp at h; exact ⟨p, by simp, by simpa using h.symm⟩
  | p :: L, j + 2, x, h => by
    have h2 : (L.flatMap fun p => [p.1, p.2])[j]? = some x := by simpa using h
    obtain ⟨q, hq, e⟩ := pairs_at L j x h2
    refine ⟨q, ?_, ?_⟩
    · rw [show (j + 2) / 2 = j / 2 + 1 by omega]; simpa using hq
    · rw [show (j + 2) % 2 = j % 2 by omega]; exact e
theorem inter_at {α : Type} {l m : List α} {i j : Nat} {x : α} (h : (inter l m i)[j]? = some x) : (j % 2 = 0 ∧ l[j / 2]? = some x) ∨ (j % 2 = 1 ∧ m[j / 2]? = some x) := by
  obtain ⟨p, hp, e⟩ := pairs_at _ j x h
  have h1 : j / 2 < i := by
    have := (List.getElem?_eq_some_iff.1 hp).1
    rw [List.length_take] at this
    omega
  rw [List.getElem?_take_of_lt h1, List.getElem?_zip_eq_some] at hp
  by_cases h2 : j % 2 = 0
  · rw [if_pos h2] at e
    exact .inl ⟨h2, by rw [e]; exact hp.1⟩
  · rw [if_neg h2] at e
    exact .inr ⟨by omega, by rw [e]; exact hp.2⟩
theorem inter_succ {α : Type} {l m : List α} {i : Nat} {a b : α} (ha : l[i]? = some a) (hb : m[i]? = some b) : inter l m (i + 1) = inter l m i ++ [a, b] := by
  have : (l.zip m)[i]? = some (a, b) := List.getElem?_zip_eq_some.2 ⟨ha, hb⟩
  unfold inter
  rw [List.take_add_one, this]
  simp
theorem inter_len {α : Type} {l m : List α} {i : Nat} (h1 : i ≤ l.length) (h2 : i ≤ m.length) : (inter l m i).length = 2 * i := by
  have : ∀ L : List (α × α), (L.flatMap fun p => [p.1, p.2]).length = 2 * L.length := fun L => by
    induction L with
    | nil => rfl
    | cons p L ih => simp [ih]; omega
  unfold inter
  rw [this, List.length_take, List.length_zip]
  omega
theorem inter_mem {α : Type} {l m : List α} {i : Nat} {x : α} (h : x ∈ inter l m i) : x ∈ l ∨ x ∈ m := by
  obtain ⟨j, hj⟩ := List.mem_iff_getElem?.1 h
  rcases inter_at hj with ⟨_, h⟩ | ⟨_, h⟩
  · exact .inl (List.mem_of_getElem? h)
  · exact .inr (List.mem_of_getElem? h)
theorem fam_inter {W : World} {B i : Nat} {l m : List (Value × List Bool)} (h : Fam W B 4 1 ((l ++ m).map rwOf)) : Fam W B 4 1 ((inter l m i).map rwOf) := by
  have get : ∀ (j : Nat) (x : Rw), ((inter l m i).map rwOf)[j]? = some x → ∃ k, ((l ++ m).map rwOf)[k]? = some x ∧ ((j % 2 = 0 ∧ k = j / 2 ∧ k < l.length) ∨ (j % 2 = 1 ∧ k = l.length + j / 2)) := fun j x hx => by
    rw [List.getElem?_map, Option.map_eq_some_iff] at hx
    obtain ⟨y, hy, rfl⟩ := hx
    rcases inter_at hy with ⟨h1, h2⟩ | ⟨h1, h2⟩
    · have hlt := (List.getElem?_eq_some_iff.1 h2).1
      exact ⟨j / 2, by rw [List.getElem?_map, List.getElem?_append_left hlt, h2]; rfl, .inl ⟨h1, rfl, hlt⟩⟩
    · exact ⟨l.length + j / 2, by rw [List.getElem?_map, List.getElem?_append_right (by omega), Nat.add_sub_cancel_left, h2]; rfl, .inr ⟨h1, rfl⟩⟩
  refine ⟨fun j x hx => ?_, fun j j2 x y g hx hy hne hg => ?_⟩
  · obtain ⟨k, hk, _⟩ := get j x hx
    exact h.own k x hk
  · obtain ⟨k, hk, c1⟩ := get j x hx
    obtain ⟨k2, hk2, c2⟩ := get j2 y hy
    exact h.apart k k2 x y g hk hk2 (by omega) hg
/-- what alone is handed. -/
theorem as_runs {W : World} {lo hi i : Nat} {l m k : List (Value × List Bool)} {sl sw : Option Addr} (hF : Fam W lo 4 1 ((l ++ m).map rwOf)) (hhi : ∀ y ∈ l ++ m, ∀ b, y.1.ownBlock = some b → b < hi) (hl : CellsAt W sl ((inter l m i).map Prod.fst)) (hsl : ∀ b o sp, sl = some ⟨b, o, sp⟩ → hi ≤ b) (hw : CellsAt W sw ((inter k k i).map Prod.fst)) (hsw : ∀ b o sp, sw = some ⟨b, o, sp⟩ → hi ≤ b)
    (hk : ∀ y ∈ k, ∃ s c, y.1 = .slice s y.2.length c ∧ CellsAt W s (bo y.2) ∧ ∀ b o sp, s = some ⟨b, o, sp⟩ → hi ≤ b) (e1 : l.map Prod.snd = k.map Prod.snd) (e2 : m.map Prod.snd = k.map Prod.snd) (hik : i ≤ k.length) : As W lo sl sw ((inter l m i).map prOf) (inter k k i) (2 * i) 0 0 := by
  have l1 : l.length = k.length := by simpa using congrArg List.length e1
  have l2 : m.length = k.length := by simpa using congrArg List.length e2
  have fre : ∀ (s : Option Addr) (xs : List Value), (∀ b o sp, s = some ⟨b, o, sp⟩ → hi ≤ b) → Free ((inter l m i).map prOf) s xs := fun s xs hs _ b o sp e x hx hk => by
    obtain ⟨y, hy, rfl⟩ := List.mem_map.1 hx
    have h1 : y.1.ownBlock = some b := by rcases hk with h | h <;> exact h
    have h2 := hhi y (by rcases inter_mem hy with h | h <;> simp [h]) b h1
    have h3 := hs b o sp e
    omega
  have hv : ((inter l m i).map prOf).map Pr.v = (inter l m i).map Prod.fst := by rw [List.map_map]; rfl
  refine ⟨⟨by rw [hv]; exact hl, by rw [hv]; exact fre _ _ hsl, hw, fre _ _ hsw, pf_of_fam (fam_inter hF), fun x hx => ?_⟩, by rw [List.length_map, inter_len (by omega) (by omega)], inter_len hik hik, fun j x wn hx hw => ?_⟩
  · obtain ⟨s, c, e, hc, hb⟩ := hk x (by rcases inter_mem hx with h | h <;> exact h)
    exact ⟨s, c, e, hc, fre _ _ hb⟩
  · rw [List.getElem?_map, Option.map_eq_some_iff] at hx
    obtain ⟨y, hy, rfl⟩ := hx
    have hk2 : k[j / 2]? = some wn := by rcases inter_at hw with ⟨_, h⟩ | ⟨_, h⟩ <;> exact h
    have hq : (k.map Prod.snd)[j / 2]? = some wn.2 := by rw [List.getElem?_map, hk2]; rfl
    refine ⟨?_, fun h => absurd h (Nat.not_lt_zero _), fun _ => ⟨rfl, rfl⟩⟩
    rw [if_neg (Nat.not_lt_zero _)]
    show y.2 = wn.2
    rcases inter_at hy with ⟨_, h⟩ | ⟨_, h⟩
    · have : (l.map Prod.snd)[j / 2]? = some y.2 := by rw [List.getElem?_map, h]; rfl
      rw [e1, hq] at this
      exact (Option.some.inj this).symm
    · have : (m.map Prod.snd)[j / 2]? = some y.2 := by rw [List.getElem?_map, h]; rfl
      rw [e2, hq] at this
      exact (Option.some.inj this).symm
set_option maxHeartbeats 1000000 in
theorem alone_none (w : World) : Calls Tryd.prog 33 #[.slice none 0 0, .slice none 0 0] w fun e w' => e = .returned (.bool true) ∧ w' = w := by
  go_enter Tryd.func33, Tryd.ntmps33
  go_wp2
  go_loopg [5] 0 (fun k iv W => k = 0 ∧ iv = .int .i64 0 ∧ W = w)
  case atStart => exact ⟨rfl, rfl, rfl⟩
  case round =>
    obtain ⟨rfl, rfl, rfl⟩ := hrel
    go_wp2
    go_loopg [8] 0 (fun k iv W => k = 0 ∧ iv = .int .i64 0 ∧ W = wr)
    case atStart => exact ⟨rfl, rfl, rfl⟩
    case round =>
      obtain ⟨rfl, rfl, rfl⟩ := hrel
      go_wp2
      go_loopg [9] 0 (fun k iv W => k = 0 ∧ iv = .int .i64 0 ∧ W = wr)
      case atStart => exact ⟨rfl, rfl, rfl⟩
      case round =>
        obtain ⟨rfl, rfl, rfl⟩ := hrel
        go_wp2
        go_ret
        exact ⟨rfl, rfl⟩
end Go.Proofs.YtfmmmhcpdinhgaaDoor
/-
  CircuitRuns: lists that are kept, lists that are flipped.
-/
namespace Go.Proofs.YtfmmmhcpdinhgaaDoor
open Go.RowKit Go.Deep PureNet ShfKit
set_option maxRecDepth 100000

theorem bo_cut (l : List Bool) : (bo (l ++ [true, false])).take (l.length * 1) = bo l := by
  rw [bo_app, List.take_append_of_le_length (by simp [bo]), List.take_of_length_le (by simp [bo])]
/-- lists that can be read, and the row of them. -/
structure KOut (W : World) (B : Nat) (lv : Value) (vs : List (Value × List Bool)) : Prop where
  row : W.ownsRow B 29 1 lv vs.length (vs.map Prod.fst)
  each : ∀ p ∈ vs, W.ownsRow B 4 1 p.1 p.2.length (bo p.2)
theorem KOut.kept {W W' : World} {B : Nat} {lv : Value} {vs : List (Value × List Bool)} (h : KOut W B lv vs) (hk : ∀ g, B ≤ g → g < W.heap.size → W'.heap[g]? = W.heap[g]?) : KOut W' B lv vs :=
  ⟨ShfKit.own_kept h.row fun g hg => hk g (ShfKit.own_block h.row hg).1 (ShfKit.own_block h.row hg).2, fun p hp => ShfKit.own_kept (h.each p hp) fun g hg => hk g (ShfKit.own_block (h.each p hp) hg).1 (ShfKit.own_block (h.each p hp) hg).2⟩
theorem KOut.below {W W' : World} {B : Nat} {lv : Value} {vs : List (Value × List Bool)} (h : KOut W B lv vs) (hb : Below W.heap.size W W') : KOut W' B lv vs := h.kept fun g _ hg => hb.block g hg
theorem KOut.lists {W : World} {B n c : Nat} {s : Option Addr} {vs : List (Value × List Bool)} (h : KOut W B (.slice s n c) vs) : ListsAt W s (vs.map Prod.snd) := ⟨fun k l hl => by
  rw [List.getElem?_map, Option.map_eq_some_iff] at hl
  obtain ⟨y, hy, rfl⟩ := hl
  obtain ⟨sa, c1, hv, hc, _⟩ := own_cells h.row
  cases hv
  obtain ⟨g, o, e, hlt, hce⟩ := hc.at_ k y.1 (by rw [List.getElem?_map, hy]; rfl)
  obtain ⟨sb, cb, hv2, hc2, hn2, _⟩ := own_cells (h.each y (List.mem_of_getElem? hy))
  refine ⟨g, o, sb, cb, e, hlt, ?_, hc2, hn2⟩
  rw [hce]
  exact congrArg some hv2⟩
theorem RunOut.kept {W W' : World} {B : Nat} {lv : Value} {vs : List (Value × List Bool)} (h : RunOut W B lv vs) (hk : ∀ g, (lv.ownBlock = some g ∨ ∃ y ∈ vs, y.1.ownBlock = some g) → W'.heap[g]? = W.heap[g]?) : RunOut W' B lv vs :=
  ⟨ShfKit.own_kept h.row fun g hg => hk g (.inl hg), ⟨fun i x hx => by
    refine ShfKit.own_kept (h.fam.own i x hx) fun g hg => hk g (.inr ?_)
    rw [List.getElem?_map, Option.map_eq_some_iff] at hx
    obtain ⟨y, hy, rfl⟩ := hx
    exact ⟨y, List.mem_of_getElem? hy, hg⟩, h.fam.apart⟩⟩
theorem RunOut.blk {W : World} {B g : Nat} {lv : Value} {vs : List (Value × List Bool)} (h : RunOut W B lv vs) (hg : lv.ownBlock = some g ∨ ∃ y ∈ vs, y.1.ownBlock = some g) : B ≤ g ∧ g < W.heap.size := by
  rcases hg with hg | ⟨y, hy, hg⟩
  · exact ShfKit.own_block h.row hg
  · obtain ⟨k, hk⟩ := List.mem_iff_getElem?.1 hy
    exact ShfKit.own_block (h.fam.own k (rwOf y) (by rw [List.getElem?_map, hk]; rfl)) hg
theorem cells_kept {W W' : World} {s : Option Addr} {xs : List Value} (h : CellsAt W s xs) (hsz : W.heap.size ≤ W'.heap.size) (hk : ∀ b o sp, s = some ⟨b, o, sp⟩ → b < W.heap.size → W'.heap[b]? = W.heap[b]?) : CellsAt W' s xs := ⟨fun k u hu => by
  obtain ⟨g, o, e, hlt, hce⟩ := h.at_ k u hu
  refine ⟨g, o, e, Nat.lt_of_lt_of_le hlt hsz, ?_⟩
  rw [World.cell?_of_block (w := W) (hk g o none e hlt)]
  exact hce⟩

/-- the lists handed in are flipped one by one, and flipped ones are laid beside. -/
structure Fl (X W : World) (lo hi : Nat) (gv ov : Value) (is : List (List Bool)) (i j : Nat) (vs vt ws : List (Value × List Bool)) : Prop where
  giv : RunOut W lo gv vt
  fst_ : vt.map Prod.fst = vs.map Prod.fst
  snd_ : vt.map Prod.snd = (is.take i).map (List.map not) ++ is.drop i
  oth : RunOut W X.heap.size ov ws
  osnd : ws.map Prod.snd = (is.take j).map (List.map not)
  olen : ws.length = j
  kp : ∀ g, g < X.heap.size → (g < lo ∨ hi ≤ g) → W.heap[g]? = X.heap[g]?
  bel : Below lo X W
theorem turn_set {α : Type} (f : α → α) (l : List α) (i : Nat) (b : α) (h : l[i]? = some b) : ((l.take i).map f ++ l.drop i).set i (f b) = (l.take (i + 1)).map f ++ l.drop (i + 1) := by
  have hi := (List.getElem?_eq_some_iff.1 h).1
  have hb := (List.getElem?_eq_some_iff.1 h).2
  have hlen : ((l.take i).map f).length = i := by simp; omega
  rw [List.set_append_right _ _ (by omega), hlen, Nat.sub_self, List.take_add_one, h, List.drop_eq_getElem_cons hi, hb]
  simp
theorem turn_at {α : Type} (f : α → α) (l : List α) (i : Nat) (b : α) (h : l[i]? = some b) : ((l.take i).map f ++ l.drop i)[i]? = some b := by
  have hi := (List.getElem?_eq_some_iff.1 h).1
  rw [List.getElem?_append_right (by simp; omega), List.getElem?_drop]
  simp
  rw [show i + (i - min i l.length) = i by omega]
  exact h
theorem set_fst {L : List (Value × List Bool)} {i : Nat} {y z : Value × List Bool} (hx : L[i]? = some y) (hv : z.1 = y.1) : (L.set i z).map Prod.fst = L.map Prod.fst := by
  rw [List.map_set]
  have hi := (List.getElem?_eq_some_iff.1 hx).1
  have : (L.map Prod.fst)[i]? = some z.1 := by rw [List.getElem?_map, hx, hv]; rfl
  have hi2 : i < (L.map Prod.fst).length := by simpa using hi
  have h2 := List.set_getElem_self hi2
  rw [(List.getElem?_eq_some_iff.1 this).2] at h2
  exact h2
theorem Fl.flip {X W W' : World} {lo hi i j : Nat} {gv ov : Value} {is : List (List Bool)} {vs vt ws : List (Value × List Bool)} {v : Value} {l : List Bool} (h : Fl X W lo hi gv ov is i j vs vt ws) (hhi : hi ≤ X.heap.size) (hlo : lo ≤ X.heap.size) (hGB : ∀ v ∈ vs.map Prod.fst, ∀ g, v.ownBlock = some g → g < hi) (hx : vt[i]? = some (v, l)) (hl : is[i]? = some l) (ho : W'.ownsRow lo 4 1 v l.length (bo (l.map not))) (hg : W.grownBy W' v.ownBlock) :
    Fl X W' lo hi gv ov is (i + 1) j vs (vt.set i (v, l.map not)) ws := by
  have how := h.giv.fam.own i (rwOf (v, l)) (by rw [List.getElem?_map, hx]; rfl)
  have hblk : ∀ g, v.ownBlock = some g → lo ≤ g ∧ g < hi := fun g e => ⟨(ShfKit.own_block how e).1, hGB v (by rw [← h.fst_]; exact List.mem_map.2 ⟨_, List.mem_of_getElem? hx, rfl⟩) g e⟩
  refine ⟨⟨?_, ?_⟩, ?_, ?_, ?_, h.osnd, h.olen, fun g h1 h2 => ?_, h.bel.grown hg (Nat.le_trans hlo h.bel.size) (fun k e => (hblk k e).1)⟩
  · rw [List.length_set, set_fst (z := (v, l.map not)) hx rfl]
    exact Go.Proofs.YtfmmmhcpdinhgaaDoor.own_kept h.giv.row how hg (by decide)
  · rw [List.map_set]
    exact h.giv.fam.turn (x := rwOf (v, l)) (y := rwOf (v, l.map not)) (by rw [List.getElem?_map, hx]; rfl) (by show W'.ownsRow lo 4 1 v (l.map not).length (bo (l.map not)); rw [List.length_map]; exact ho) (.inl ⟨rfl, hg⟩)
  · rw [set_fst (z := (v, l.map not)) hx rfl]
    exact h.fst_
  · rw [List.map_set, h.snd_]
    exact turn_set (List.map not) is i l hl
  · refine h.oth.kept fun g hgv => ?_
    have h1 := h.oth.blk hgv
    exact hg.block g h1.2 (fun e => by have := hblk g e.symm; omega)
  · rw [hg.block g (Nat.lt_of_lt_of_le h1 h.bel.size) (fun e => by have := hblk g e.symm; omega)]
    exact h.kp g h1 h2
theorem Fl.push {X W W1 Y W' : World} {lo hi i j c2 : Nat} {s2 : Option Addr} {gv ov' v : Value} {is : List (List Bool)} {vs vt ws : List (Value × List Bool)} {l : List Bool} (h : Fl X W lo hi gv (.slice s2 j c2) is i j vs vt ws) (hhi : hi ≤ X.heap.size) (hlo : lo ≤ X.heap.size) (hGB : ∀ g, (gv.ownBlock = some g ∨ ∃ y ∈ vs, y.1.ownBlock = some g) → g < hi) (hl : is[j]? = some l) (b1 : Below W.heap.size W W1) (o1 : W1.ownsRow W.heap.size 4 1 v l.length (bo (l.map not))) (bY : Below W1.heap.size W1 Y) (o7 : W'.ownsRow X.heap.size 29 1 ov' (j + 1) (ws.map Prod.fst ++ [v])) (f7 : Far Y W' (.slice s2 j c2) ov') :
    Fl X W' lo hi gv ov' is i (j + 1) vs vt (ws ++ [(v, l.map not)]) := by
  have bWY : Below W.heap.size W Y := b1.trans (bY.mono b1.size)
  have hrow : W.ownsRow X.heap.size 29 1 (.slice s2 j c2) j (ws.map Prod.fst) := by
    have h1 := h.oth.row
    rw [h.olen] at h1
    exact h1
  have bX : Below X.heap.size Y W' := f7.below (Below.refl _ _) (Nat.le_trans h.bel.size bWY.size) (fun g hg => (ShfKit.own_block hrow hg).1)
  have hfam := (h.oth.fam.push (y := rwOf (v, l.map not)) b1 (by show W1.ownsRow W.heap.size 4 1 v (l.map not).length (bo (l.map not)); rw [List.length_map]; exact o1) h.bel.size).below bY
  refine ⟨(h.giv.below bWY).kept fun g hg => bX.block g ?_, h.fst_, h.snd_, RunOut.push (ownsRow_below hrow bWY) h.olen (by rw [List.map_append]; exact hfam) o7 f7, by rw [List.map_append, h.osnd, List.take_add_one, hl]; simp, by rw [List.length_append, h.olen]; rfl, fun g h1 h2 => ?_, (h.bel.trans (bWY.mono (Nat.le_trans hlo h.bel.size))).trans (bX.mono hlo)⟩
  · have : g < hi := hGB g (by
      rcases hg with hg | ⟨y, hy, hg⟩
      · exact .inl hg
      · have hm : y.1 ∈ vs.map Prod.fst := by rw [← h.fst_]; exact List.mem_map.2 ⟨y, hy, rfl⟩
        obtain ⟨z, hz, e⟩ := List.mem_map.1 hm
        exact .inr ⟨z, hz, by rw [e]; exact hg⟩)
    omega
  · rw [bX.block g h1, bWY.block g (Nat.lt_of_lt_of_le h1 h.bel.size)]
    exact h.kp g h1 h2
end Go.Proofs.YtfmmmhcpdinhgaaDoor
