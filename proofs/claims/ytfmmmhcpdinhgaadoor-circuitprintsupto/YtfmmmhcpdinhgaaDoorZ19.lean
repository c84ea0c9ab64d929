import Derived.Test.YtfmmmhcpdinhgaaDoorZ18
/-
  The document's own table of names: find, place.
-/
namespace Go.Proofs.YtfmmmhcpdinhgaaDoor
open Go.RowKit Go.Deep PureNet
set_option maxRecDepth 100000

def ns (l : List ByteArray) : List Value := l.map Value.string
theorem name_at {W : World} {s : Option Addr} {l : List ByteArray} (h : CellsAt W s (ns l)) (k : Nat) (x : ByteArray) (hx : l[k]? = some x) : ∃ b o, s = some ⟨b, o, none⟩ ∧ b < W.heap.size ∧ W.cell? ⟨b, o + k, none⟩ = some (.string x) :=
  h.at_ k _ (by simp [ns, hx])

/-- one name is ahead of another. -/
def lessB (a b : ByteArray) : Bool := Op.bytesLess a.toList b.toList
theorem bytesLess_lt : ∀ (x y : List UInt8), Op.bytesLess x y = decide (x < y)
  | x, [] => by
    have : ¬ x < [] := List.not_lt_nil x
    simp [Op.bytesLess]
  | [], b :: y => by simp [Op.bytesLess]
  | a :: x, b :: y => by
    simp only [Op.bytesLess, bytesLess_lt x y]
    rw [Bool.eq_iff_iff]
    simp only [Bool.or_eq_true, Bool.and_eq_true, decide_eq_true_eq, beq_iff_eq, List.cons_lt_cons_iff]
theorem lessB_iff (a b : ByteArray) : lessB a b = true ↔ a.data.toList < b.data.toList := by
  unfold lessB
  rw [bytesLess_lt, decide_eq_true_eq, ByteArray.toList_eq, ByteArray.toList_eq]
theorem lessB_irrefl (a : ByteArray) : lessB a a = false := by
  cases h : lessB a a with
  | false => rfl
  | true => exact absurd ((lessB_iff a a).1 h) (List.lt_irrefl _)
theorem lessB_trans {a b c : ByteArray} (h : lessB a b = true) (k : lessB b c = true) : lessB a c = true := (lessB_iff a c).2 (List.lt_trans ((lessB_iff a b).1 h) ((lessB_iff b c).1 k))
theorem lessB_total {a b : ByteArray} (h : lessB a b = false) (hne : a ≠ b) : lessB b a = true := by
  rw [lessB_iff]
  have h1 : ¬ a.data.toList < b.data.toList := fun x => by rw [(lessB_iff a b).2 x] at h; cases h
  by_cases h2 : b.data.toList < a.data.toList
  · exact h2
  · exact absurd (Go.WideShapes.bytes_inj (List.le_antisymm (List.not_lt.1 h2) (List.not_lt.1 h1))) hne
/-- names that rise. -/
def Rising (N : List ByteArray) : Prop := ∀ (i j : Nat) (x y : ByteArray), i < j → N[i]? = some x → N[j]? = some y → lessB x y = true
/-- where a name stands or would stand. -/
structure Spot (N : List ByteArray) (s : ByteArray) (i : Nat) : Prop where
  le : i ≤ N.length
  low : ∀ (k : Nat) (x : ByteArray), k < i → N[k]? = some x → lessB x s = true
  high : ∀ (k : Nat) (x : ByteArray), i ≤ k → N[k]? = some x → lessB x s = false
theorem Spot.mem {N : List ByteArray} {s : ByteArray} {i : Nat} (h : Spot N s i) (hr : Rising N) : s ∈ N ↔ N[i]? = some s := by
  constructor
  · intro hm
    obtain ⟨k, hk, he⟩ := List.getElem_of_mem hm
    have hks : N[k]? = some s := by rw [List.getElem?_eq_getElem hk, he]
    have hki : ¬ k < i := fun hlt => by
      have := h.low k s hlt hks
      rw [lessB_irrefl] at this
      cases this
    by_cases e : i = k
    · rw [e]; exact hks
    · have hi : i < N.length := by omega
      have hxi : N[i]? = some N[i] := List.getElem?_eq_getElem hi
      have h1 := hr i k _ _ (by omega) hxi hks
      have h2 := h.high i _ (Nat.le_refl _) hxi
      rw [h1] at h2
      cases h2
  · intro hi
    exact List.mem_of_getElem? hi

set_option maxHeartbeats 2000000 in
set_option maxRecDepth 100000 in
theorem find_any (kb : Nat) (sn : Option Addr) (cn : Nat) (pv : Value) (N : List ByteArray) (s : ByteArray) (w : World) (hk : w.heap[kb]? = some (.cells #[.slice sn N.length cn, pv] 88 (0, 0))) (hn : CellsAt w sn (ns N)) (hr : Rising N) (hl : N.length ≤ 1048576) :
    Calls Tryd.prog 85 #[.pointer (some ⟨kb, 0, none⟩), .string s] w fun e w' => ∃ i : Nat, Spot N s i ∧ e = .returned (.int .i64 (i : Int)) ∧ Below w.heap.size w w' := by
  have c0 := fun j => cell_row hk j
  have hb := (Array.getElem?_eq_some_iff.1 hk).1
  have HN := hid hn
  have HR := hid hr
  clear hk hn hr
  go_enter Tryd.func85, Tryd.ntmps85
  go_wp2
  go_loopw [5, 6] (fun lv hv W => ∃ lo hi : Nat, lo ≤ hi ∧ hi ≤ N.length ∧ lv = .int .i64 (lo : Int) ∧ hv = .int .i64 (hi : Int) ∧ Hid (Below w.heap.size w W ∧ (∀ (k : Nat) (x : ByteArray), k < lo → N[k]? = some x → lessB x s = true) ∧ ∀ (k : Nat) (x : ByteArray), hi ≤ k → N[k]? = some x → lessB x s = false)) (fun lv hv _ => (intOf hv).toNat - (intOf lv).toNat)
  case atStart => exact ⟨0, N.length, Nat.zero_le _, Nat.le_refl _, rfl, rfl, Below.refl _ _, (fun k x hk => by omega), fun k x hk hx => by have := (List.getElem?_eq_some_iff.1 hx).1; omega⟩
  case round =>
    obtain ⟨lo, hi, h1, h2, rfl, rfl, HI⟩ := hrel
    obtain ⟨hw, hlow, hhigh⟩ := HI.out
    have c1 := fun j => (hw.cell (p := ⟨kb, j, none⟩) hb).trans (c0 j)
    have hb1 := Nat.lt_of_lt_of_le hb hw.size
    clear HI
    by_cases hlt : lo < hi
    · obtain ⟨m, hm⟩ : ∃ m, m = (lo + hi) / 2 := ⟨_, rfl⟩
      have hm1 : (((lo : Int) + (hi : Int)) / 2) = (m : Int) := by omega
      obtain ⟨x, hx⟩ : ∃ x, N[m]? = some x := ⟨_, List.getElem?_eq_getElem (by omega)⟩
      obtain ⟨b, o, rfl, hbn, d0⟩ := name_at (HN.out.below hw) m x hx
      have hml : m < N.length := by omega
      have hm2 : lo ≤ m := by omega
      have hm3 : m < hi := by omega
      have HW := hid hw
      cases hle : lessB x s with
      | true =>
        have HX : Hid (∀ (k : Nat) (y : ByteArray), k < m + 1 → N[k]? = some y → lessB y s = true) := fun k y hk hy => by
          by_cases e : k = m
          · subst e; rw [hx] at hy; cases hy; exact hle
          · exact lessB_trans (HR.out k m y x (by omega) hy hx) hle
        have HH := hid hhigh
        have hle2 : Op.bytesLess x.toList s.toList = true := hle
        clear hx hm hlow hhigh hw hle
        go_wp2
        exact ⟨⟨m + 1, hi, by omega, h2, by go_num, rfl, HW.out, HX.out, HH.out⟩, by simp [intOf]; omega⟩
      | false =>
        have HX : Hid (∀ (k : Nat) (y : ByteArray), m ≤ k → N[k]? = some y → lessB y s = false) := fun k y hk hy => by
          by_cases e : k = m
          · subst e; rw [hx] at hy; cases hy; exact hle
          · cases hys : lessB y s with
            | false => rfl
            | true =>
              have := lessB_trans (HR.out m k x y (by omega) hx hy) hys
              rw [hle] at this
              cases this
        have HLo := hid hlow
        have hle2 : Op.bytesLess x.toList s.toList = false := hle
        clear hx hm hlow hhigh hw hle
        go_wp2
        exact ⟨⟨lo, m, hm2, by omega, rfl, by rw [hm1], HW.out, HLo.out, HX.out⟩, by simp [intOf]; omega⟩
    · have SP : Hid (Spot N s lo) := ⟨by omega, hlow, fun k x hk => hhigh k x (by omega)⟩
      have HW := hid hw
      clear hlow hhigh hw
      go_wp2
      go_ret
      exact ⟨lo, SP.out, rfl, HW.out⟩

/-- the place of a name, or -1. -/
def placeN (N : List ByteArray) (P : List Int) (s : ByteArray) : Int := match N.findIdx? (fun x => decide (x = s)) with
  | some i => P.getD i 0
  | none => -1
theorem placeN_some {N : List ByteArray} {P : List Int} {s : ByteArray} {i : Nat} (hr : Rising N) (h : N[i]? = some s) : placeN N P s = P.getD i 0 := by
  unfold placeN
  have hi := (List.getElem?_eq_some_iff.1 h).1
  have hv := (List.getElem?_eq_some_iff.1 h).2
  have : N.findIdx? (fun x => decide (x = s)) = some i := by
    rw [List.findIdx?_eq_some_iff_getElem]
    refine ⟨hi, by simpa using hv, fun j hj => ?_⟩
    have hjn : N[j]? = some (N[j]'(by omega)) := List.getElem?_eq_getElem _
    have := hr j i _ _ hj hjn h
    simp only [decide_eq_true_eq]
    intro e
    rw [e, lessB_irrefl] at this
    cases this
  rw [this]
theorem placeN_none {N : List ByteArray} {P : List Int} {s : ByteArray} (h : s ∉ N) : placeN N P s = -1 := by
  unfold placeN
  have : N.findIdx? (fun x => decide (x = s)) = none := by
    rw [List.findIdx?_eq_none_iff]
    intro x hx
    simp only [decide_eq_false_iff_not]
    intro e
    exact h (e ▸ hx)
  rw [this]
theorem beq_names (x s : ByteArray) : (x.toList == s.toList) = decide (x = s) := by
  rw [ByteArray.toList_eq, ByteArray.toList_eq]
  by_cases h : x = s
  · subst h; simp
  · have h2 : ¬ x.data.toList = s.data.toList := fun e => h (Go.WideShapes.bytes_inj e)
    rw [decide_eq_false h]
    exact beq_eq_false_iff_ne.2 h2

set_option maxHeartbeats 2000000 in
set_option maxRecDepth 100000 in
theorem place_any (kb : Nat) (sn sp : Option Addr) (cn cp : Nat) (N : List ByteArray) (P : List Int) (s : ByteArray) (w : World) (hk : w.heap[kb]? = some (.cells #[.slice sn N.length cn, .slice sp N.length cp] 88 (0, 0))) (hn : CellsAt w sn (ns N)) (hp : CellsAt w sp (nu P)) (hPl : P.length = N.length) (hr : Rising N) (hl : N.length ≤ 1048576) :
    Calls Tryd.prog 57 #[.pointer (some ⟨kb, 0, none⟩), .string s] w fun e w' => e = .returned (.int .i64 (placeN N P s)) ∧ Below w.heap.size w w' := by
  have FD := hid (find_any kb sn cn (.slice sp N.length cp) N s w hk hn hr hl)
  have KB : Hid (∀ W, Below w.heap.size w W → (∀ j, W.cell? ⟨kb, j, none⟩ = (#[.slice sn N.length cn, .slice sp N.length cp] : Array Value)[j]?) ∧ kb < W.heap.size) := fun W hW => by
    have h2 := (hW.block _ (Array.getElem?_eq_some_iff.1 hk).1).trans hk
    exact ⟨fun j => cell_row h2 j, (Array.getElem?_eq_some_iff.1 h2).1⟩
  have HN := hid hn
  have HP := hid hp
  have HR := hid hr
  have HPL := hid hPl
  clear hk hn hp hr hPl
  go_enter Tryd.func57, Tryd.ntmps57
  go_wp2_with (fail)
  with_reducible refine FD.out.mono ?_
  rintro e w1 ⟨i, hsp, rfl, b1⟩
  have hile := hsp.le
  obtain ⟨c1, hb1⟩ := KB.out _ b1
  have B1 := hid b1
  by_cases hi : i < N.length
  · obtain ⟨x, hx⟩ : ∃ x, N[i]? = some x := ⟨_, List.getElem?_eq_getElem hi⟩
    obtain ⟨y, hy⟩ : ∃ y, P[i]? = some y := ⟨_, List.getElem?_eq_getElem (by have := HPL.out; omega)⟩
    obtain ⟨bn, on, rfl, hbn, d0⟩ := name_at (HN.out.below b1) i x hx
    obtain ⟨bp, op, rfl, hbp, d1⟩ := num_at (HP.out.below b1) i y hy
    by_cases hxs : x = s
    · have hpl : Hid (placeN N P s = y) := by
        show _ = _
        rw [placeN_some HR.out (by rw [hx, hxs]), List.getD_eq_getElem?_getD, hy]
        rfl
      have he : (x.toList == s.toList) = true := by rw [beq_names]; exact decide_eq_true hxs
      clear hx hy hsp b1 hxs
      go_wp2
      go_ret
      rw [hpl.out]
      exact ⟨rfl, B1.out⟩
    · have hpl : Hid (placeN N P s = -1) := placeN_none (fun hm => by rw [(hsp.mem HR.out).1 hm] at hx; exact hxs (Option.some.inj hx).symm)
      have he : (x.toList == s.toList) = false := by rw [beq_names]; exact decide_eq_false hxs
      clear hx hy hsp b1 hxs
      go_wp2
      go_ret
      rw [hpl.out]
      exact ⟨rfl, B1.out⟩
  · have hpl : Hid (placeN N P s = -1) := placeN_none (fun hm => by
      have := (hsp.mem HR.out).1 hm
      have := (List.getElem?_eq_some_iff.1 this).1
      omega)
    clear hsp b1
    go_wp2
    go_ret
    rw [hpl.out]
    exact ⟨rfl, B1.out⟩
end Go.Proofs.YtfmmmhcpdinhgaaDoor
/-
  The document's own Formed: what the loop over the lines knows.
-/
namespace Go.Proofs.YtfmmmhcpdinhgaaDoor
open Go.RowKit Go.Deep PureNet
set_option maxRecDepth 100000

theorem put_at {α : Type} (N : List α) (s : α) (q k : Nat) (h : q ≤ N.length) : (N.take q ++ s :: N.drop q)[k]? = if k < q then N[k]? else if k = q then some s else N[k - 1]? := by
  by_cases h1 : k < q
  · rw [if_pos h1, List.getElem?_append_left (by simp; omega), List.getElem?_take_of_lt h1]
  · rw [if_neg h1, List.getElem?_append_right (by simp; omega)]
    have hl : (N.take q).length = q := by simp; omega
    rw [hl]
    by_cases h2 : k = q
    · rw [if_pos h2, h2, Nat.sub_self]; rfl
    · rw [if_neg h2, show k - q = (k - q - 1) + 1 by omega, List.getElem?_cons_succ, List.getElem?_drop]
      congr 1
      omega
theorem put_mem {α : Type} (N : List α) (s x : α) (q : Nat) : x ∈ N.take q ++ s :: N.drop q ↔ x ∈ N ∨ x = s := by
  have h : x ∈ N ↔ x ∈ N.take q ∨ x ∈ N.drop q := by rw [← List.mem_append, List.take_append_drop]
  rw [h]
  simp only [List.mem_append, List.mem_cons]
  constructor
  · rintro (h | h | h)
    · exact .inl (.inl h)
    · exact .inr h
    · exact .inl (.inr h)
  · rintro ((h | h) | h)
    · exact .inl h
    · exact .inr (.inr h)
    · exact .inr (.inl h)
theorem put_len {α : Type} (N : List α) (s : α) (q : Nat) (h : q ≤ N.length) : (N.take q ++ s :: N.drop q).length = N.length + 1 := by simp; omega
theorem Rising.put {N : List ByteArray} {s : ByteArray} {q : Nat} (hr : Rising N) (hs : Spot N s q) (hn : s ∉ N) : Rising (N.take q ++ s :: N.drop q) := by
  intro i j x y hij hi hj
  rw [put_at _ _ _ _ hs.le] at hi hj
  have up : ∀ k z, q ≤ k → N[k]? = some z → lessB s z = true := fun k z hk hz => lessB_total (hs.high k z hk hz) (by
    rintro rfl
    exact hn (List.mem_of_getElem? hz))
  by_cases h1 : i < q
  · rw [if_pos h1] at hi
    by_cases h2 : j < q
    · rw [if_pos h2] at hj
      exact hr i j x y hij hi hj
    · rw [if_neg h2] at hj
      by_cases h3 : j = q
      · rw [if_pos h3] at hj
        cases hj
        exact hs.low i x h1 hi
      · rw [if_neg h3] at hj
        exact hr i (j - 1) x y (by omega) hi hj
  · rw [if_neg h1] at hi
    have h2 : ¬ j < q := by omega
    have h3 : ¬ j = q := by omega
    rw [if_neg h2, if_neg h3] at hj
    by_cases h4 : i = q
    · rw [if_pos h4] at hi
      cases hi
      exact up (j - 1) y (by omega) hj
    · rw [if_neg h4] at hi
      exact hr (i - 1) (j - 1) x y (by omega) hi hj
/-- the first i lines are formed, and their names stand in the table. -/
structure FT (l : List Ga) (i : Nat) (N : List ByteArray) (P : List Int) : Prop where
  rise : Rising N
  len : N.length = i
  lenP : P.length = N.length
  pos : ∀ p ∈ P, 0 ≤ p
  mem : ∀ s, s ∈ N ↔ ∃ (k : Nat) (g : Ga), k < i ∧ l[k]? = some g ∧ g.name = s
  lines : ∀ (k : Nat) (g : Ga), k < i → l[k]? = some g → nameB g.name = true ∧ lineB g l.length = true
  apart : ∀ (k j : Nat) (g h : Ga), k < i → j < i → l[k]? = some g → l[j]? = some h → g.name = h.name → k = j
theorem FT.start (l : List Ga) : FT l 0 [] [] := ⟨fun i j x y _ h => by simp at h, rfl, rfl, fun p hp => by simp at hp, fun s => ⟨fun h => (by simp at h), fun ⟨k, g, h, _⟩ => by omega⟩, fun k g h => by omega, fun k j g h hk => by omega⟩
theorem FT.next {l : List Ga} {i q : Nat} {N : List ByteArray} {P : List Int} {g : Ga} (h : FT l i N P) (hg : l[i]? = some g) (hn : nameB g.name = true) (hl : lineB g l.length = true) (hnew : g.name ∉ N) (hs : Spot N g.name q) : FT l (i + 1) (N.take q ++ g.name :: N.drop q) (P.take q ++ (i : Int) :: P.drop q) := by
  have hq := hs.le
  refine ⟨h.rise.put hs hnew, by rw [put_len _ _ _ hq, h.len], by rw [put_len _ _ _ (by rw [h.lenP]; exact hq), put_len _ _ _ hq, h.lenP], fun p hp => ?_, fun s => ?_, fun k g' hk hg' => ?_, fun k j g1 g2 hk hj h1 h2 e => ?_⟩
  · rcases (put_mem _ _ _ _).1 hp with h1 | h1
    · exact h.pos p h1
    · omega
  · rw [put_mem, h.mem]
    constructor
    · rintro (⟨k, g', hk, hg', e⟩ | rfl)
      · exact ⟨k, g', by omega, hg', e⟩
      · exact ⟨i, g, by omega, hg, rfl⟩
    · rintro ⟨k, g', hk, hg', e⟩
      by_cases hki : k = i
      · rw [hki, hg] at hg'
        cases hg'
        exact .inr e.symm
      · exact .inl ⟨k, g', by omega, hg', e⟩
  · by_cases hki : k = i
    · rw [hki, hg] at hg'
      cases hg'
      exact ⟨hn, hl⟩
    · exact h.lines k g' (by omega) hg'
  · by_cases hki : k = i
    · by_cases hji : j = i
      · omega
      · rw [hki, hg] at h1
        cases h1
        exact absurd ((h.mem _).2 ⟨j, g2, by omega, h2, e.symm⟩) hnew
    · by_cases hji : j = i
      · rw [hji, hg] at h2
        cases h2
        exact absurd ((h.mem _).2 ⟨k, g1, by omega, h1, e⟩) hnew
      · exact h.apart k j g1 g2 (by omega) (by omega) h1 h2 e
/-- whether a name is known. -/
theorem FT.place {l : List Ga} {i : Nat} {N : List ByteArray} {P : List Int} (h : FT l i N P) (s : ByteArray) : 0 ≤ placeN N P s ↔ s ∈ N := by
  by_cases hm : s ∈ N
  · obtain ⟨k, hk, e⟩ := List.getElem_of_mem hm
    have hks : N[k]? = some s := by rw [List.getElem?_eq_getElem hk, e]
    rw [placeN_some h.rise hks]
    have hkp : k < P.length := by rw [h.lenP]; exact hk
    rw [List.getD_eq_getElem?_getD, List.getElem?_eq_getElem hkp]
    exact ⟨fun _ => hm, fun _ => h.pos _ (List.getElem_mem _)⟩
  · rw [placeN_none hm]
    exact ⟨fun h => by omega, fun h => absurd h hm⟩
/-- a circuit some line of which is not formed. -/
theorem not_formed_line {c : Net} {i : Nat} {N : List ByteArray} {P : List Int} {g : Ga} (h : FT c.gates i N P) (hg : c.gates[i]? = some g) (hb : nameB g.name = false ∨ lineB g c.gates.length = false ∨ g.name ∈ N) : ¬ PureNet.Formed c := by
  intro hf
  obtain ⟨h1, h2⟩ := hf.lines i g hg
  rcases hb with hb | hb | hb
  · rw [hb] at h1; cases h1
  · rw [hb] at h2; cases h2
  · obtain ⟨k, g', hk, hg', e⟩ := (h.mem _).1 hb
    have := hf.apart k i g' g hg' hg e
    omega
end Go.Proofs.YtfmmmhcpdinhgaaDoor
/-
  The document's own table of names: add.
-/
namespace Go.Proofs.YtfmmmhcpdinhgaaDoor
open Go.RowKit Go.Deep PureNet
set_option maxRecDepth 100000

theorem info9 : (Tryd.prog.info? 9).map (fun i => (i.zero, i.size, i.bytes)) = some (some (.string ⟨#[]⟩), 1, 16) := by kernel_rfl
theorem ownsRow_store2 {W : World} {b B e size n t i : Nat} {v u : Value} {xs : List Value} {cs : Array Value} {fz : Nat × Nat} (h : W.ownsRow B e size v n xs) (hr : W.heap[b]? = some (.cells cs t fz)) (hte : t ≠ e) : (W.setCell ⟨b, i, none⟩ u).ownsRow B e size v n xs := by
  have hne := own_ne h hr hte
  refine ⟨h.1, ?_⟩
  rcases h.2 with hn | ⟨g, cap, cur, hv, hB, hg, rest⟩
  · exact .inl hn
  · refine .inr ⟨g, cap, cur, hv, hB, (Below.heap_setCell W _ _ _ ?_).trans hg, rest⟩
    intro e
    exact hne (by rw [hv]; simp [Value.ownBlock]; exact e)
/-- the table of names: its box, its two lists, rising. -/
structure Kn (w W : World) (kb : Nat) (nv pv : Value) (N : List ByteArray) (P : List Int) : Prop where
  row : W.heap[kb]? = some (.cells #[nv, pv] 88 (0, 0))
  hB : w.heap.size ≤ kb
  on_ : W.ownsRow w.heap.size 9 1 nv N.length (ns N)
  op : W.ownsRow w.heap.size 3 1 pv P.length (nu P)
  below : Below w.heap.size w W
section
variable {w W W' : World} {kb : Nat} {nv pv nv' pv' : Value} {N : List ByteArray} {P : List Int}
theorem Kn.size (h : Kn w W kb nv pv N P) : kb < W.heap.size := (Array.getElem?_eq_some_iff.1 h.row).1
theorem Kn.on (h : Kn w W kb nv pv N P) (hb : Below W.heap.size W W') : Kn w W' kb nv pv N P :=
  ⟨(hb.block _ h.size).trans h.row, h.hB, ownsRow_below h.on_ hb, ownsRow_below h.op hb, h.below.trans (hb.mono h.below.size)⟩
theorem Kn.name (h : Kn w W kb nv pv N P) {x : ByteArray} (ho : W'.ownsRow w.heap.size 9 1 nv' (N.length + 1) (ns N ++ [.string x])) (hg : W.grownBy W' nv.ownBlock) :
    W'.heap[kb]? = some (.cells #[nv, pv] 88 (0, 0)) ∧ Kn w (W'.setCell ⟨kb, 0, none⟩ nv') kb nv' pv (N ++ [x]) P := by
  have hrow : W'.heap[kb]? = some (.cells #[nv, pv] 88 (0, 0)) := (hg.block kb h.size (Ne.symm (own_ne h.on_ h.row (by decide)))).trans h.row
  refine ⟨hrow, ⟨by have := row_set (i := 0) (u := nv') hrow; simpa using this, h.hB, ?_, ownsRow_store2 (own_kept h.op h.on_ hg (by decide)) hrow (by decide), (h.below.grown hg h.below.size (fun j hj => (h.on_.lt j hj).1)).setCell h.hB _⟩⟩
  have := ownsRow_store2 (i := 0) (u := nv') ho hrow (by decide)
  rw [List.length_append, ns, List.map_append]
  exact this
theorem Kn.place (h : Kn w W kb nv pv N P) {x : Int} (ho : W'.ownsRow w.heap.size 3 1 pv' (P.length + 1) (nu P ++ [.int .i64 x])) (hg : W.grownBy W' pv.ownBlock) :
    W'.heap[kb]? = some (.cells #[nv, pv] 88 (0, 0)) ∧ Kn w (W'.setCell ⟨kb, 1, none⟩ pv') kb nv pv' N (P ++ [x]) := by
  have hrow : W'.heap[kb]? = some (.cells #[nv, pv] 88 (0, 0)) := (hg.block kb h.size (Ne.symm (own_ne h.op h.row (by decide)))).trans h.row
  refine ⟨hrow, ⟨by have := row_set (i := 1) (u := pv') hrow; simpa using this, h.hB, ownsRow_store2 (own_kept h.on_ h.op hg (by decide)) hrow (by decide), ?_, (h.below.grown hg h.below.size (fun j hj => (h.op.lt j hj).1)).setCell h.hB _⟩⟩
  have := ownsRow_store2 (i := 1) (u := pv') ho hrow (by decide)
  rw [List.length_append, nu, List.map_append]
  exact this
end

/-- an owned row of cells of one, opened. -/
theorem own_open {W : World} {B e n : Nat} {v : Value} {xs : List Value} (h : W.ownsRow B e 1 v n xs) (hn : 0 < n) : ∃ g cap cur, v = .slice (some ⟨g, 0, none⟩) n cap ∧ W.heap[g]? = some (.cells cur e (0, 0)) ∧ B ≤ g ∧ n ≤ cap ∧ cap ≤ maxLen ∧ cur.size = cap ∧ cur.toList.take n = xs := by
  rcases h.2 with ⟨_, h0⟩ | ⟨g, cap, cur, hv, hB, hg, hk, hm, hs, ht⟩
  · omega
  · exact ⟨g, cap, cur, hv, hg, hB, hk, hm, by simpa using hs, by simpa using ht⟩

theorem setRow_grown (W : World) (g : Nat) (cs : Array Value) : W.grownBy (W.setRow g cs) (some g) := ⟨rfl, rfl, rfl, by simp [World.setRow], fun k hk hne => setRow_other _ _ _ _ (fun e => hne (by rw [e]))⟩
/-- the copy of all from i on by one place. -/
theorem copy_up {W : World} {g cap n i : Nat} {cur : Array Value} {t e : TypeId} {xs : List Value} {z : Value} (hu : Tryd.prog.underlying t = some (.slice e)) (hs : (Tryd.prog.info? e).map (·.size) = some 1) (hg : W.heap[g]? = some (.cells cur e (0, 0))) (hsz : cur.size = cap) (hc : n + 1 ≤ cap) (hi : i ≤ n) (hx : xs.length = n) (ht : cur.toList.take (n + 1) = xs ++ [z]) (h1 : ∀ v ∈ xs, v.oneCell' = true) (q1 : ¬ cap = i) :
    ∃ cur', (Builtin.copy_ #[t, t] 3 #[.slice (if cap = i + 1 then some ⟨g, 0, none⟩ else some ⟨g, i + 1, none⟩) (n - i) (cap - (i + 1)), .slice (if cap = i then some ⟨g, 0, none⟩ else some ⟨g, i, none⟩) (n + 1 - i) (cap - i)]).run Tryd.prog W = .ok (.int .i64 ((n - i : Nat) : Int)) (W.setRow g cur') ∧ cur'.size = cap ∧ cur'.toList.take (n + 1) = (xs ++ [z]).take (i + 1) ++ xs.drop i := by
  have hcl : (xs.drop i).length = n - i := by simp [hx]
  have hlen : cur.toList.length = cap := by simpa using hsz
  have hget : ∀ k, k < n → cur.toList[k]? = xs[k]? := fun k hk => by
    have : (cur.toList.take (n + 1))[k]? = (xs ++ [z])[k]? := by rw [ht]
    rw [List.getElem?_take_of_lt (by omega), List.getElem?_append_left (by omega)] at this
    exact this
  by_cases q2 : cap = i + 1
  · have hin : i = n := by omega
    subst hin
    refine ⟨cur, ?_, hsz, ?_⟩
    · have := run_copy_row (P := Tryd.prog) W t t 3 e g 0 0 0 ⟨g, i, none⟩ 1 1 cur e [] hu hs hg (by simp) (fun j v hj => by simp at hj) (by simp) (fun v hv => by cases hv)
      rw [if_pos q2, if_neg q1, show i - i = 0 by omega, show cap - (i + 1) = 0 by omega, show i + 1 - i = 1 by omega, show cap - i = 1 by omega]
      simpa [goInt] using this
    · rw [ht, List.take_of_length_le (by simp [hx]), List.drop_of_length_le (by omega), List.append_nil]
  · refine ⟨(cur.toList.take (i + 1) ++ xs.drop i ++ cur.toList.drop (i + 1 + (xs.drop i).length)).toArray, ?_, ?_, ?_⟩
    · have := run_copy_row (P := Tryd.prog) W t t 3 e g (i + 1) (n - i) (cap - (i + 1)) ⟨g, i, none⟩ (n + 1 - i) (cap - i) cur e (xs.drop i) hu hs hg (by rw [hcl]; exact (Nat.min_eq_right (by omega)).symm) (fun j v hj => by
        have hjl := (List.getElem?_eq_some_iff.1 hj).1
        rw [hcl] at hjl
        rw [List.getElem?_drop] at hj
        rw [add_plain, cell_row hg]
        have := hget (i + j) (by omega)
        rw [hj] at this
        simpa using this) (by rw [hcl]; omega) (fun v hv => h1 v (List.mem_of_mem_drop hv))
      rw [if_neg q2, if_neg q1, this, hcl]
      rfl
    · simp [hcl, hlen]; omega
    · have e1 : (cur.toList.take (i + 1) ++ xs.drop i).length = n + 1 := by simp [hlen, hx]; omega
      rw [List.take_append_of_le_length (by omega), List.take_of_length_le (by omega)]
      congr 1
      rw [← ht, List.take_take, Nat.min_eq_left (by omega)]

theorem size9 : (Tryd.prog.info? 9).map (·.size) = some 1 := by kernel_rfl
theorem size3 : (Tryd.prog.info? 3).map (·.size) = some 1 := by kernel_rfl
section
variable {w W W' : World} {kb g m cap : Nat} {nv pv : Value} {N N' : List ByteArray} {P P' : List Int} {cur : Array Value}
/-- the names written over. -/
theorem Kn.names (h : Kn w W kb (.slice (some ⟨g, 0, none⟩) m cap) pv N P) (hg : W.grownBy W' (some g)) (hr : W'.heap[g]? = some (.cells cur 9 (0, 0))) (hsz : cur.size = cap) (hcap : m ≤ cap) (hm : cap ≤ maxLen) (hN : N'.length = m) (ht : cur.toList.take m = ns N') : Kn w W' kb (.slice (some ⟨g, 0, none⟩) m cap) pv N' P := by
  have hgr : W.grownBy W' (Value.slice (some ⟨g, 0, none⟩) m cap).ownBlock := by simpa [Value.ownBlock] using hg
  have hB : w.heap.size ≤ g := (h.on_.lt g (by simp [Value.ownBlock])).1
  refine ⟨(hgr.block kb h.size (Ne.symm (own_ne h.on_ h.row (by decide)))).trans h.row, h.hB, ⟨by simp [ns], .inr ⟨g, cap, cur, by rw [hN], hB, hr, by omega, hm, by simpa using hsz, by rw [hN, Nat.mul_one]; exact ht⟩⟩, own_kept h.op h.on_ hgr (by decide), h.below.grown hg h.below.size (fun j hj => by cases hj; exact hB)⟩
/-- the places written over. -/
theorem Kn.places (h : Kn w W kb nv (.slice (some ⟨g, 0, none⟩) m cap) N P) (hg : W.grownBy W' (some g)) (hr : W'.heap[g]? = some (.cells cur 3 (0, 0))) (hsz : cur.size = cap) (hcap : m ≤ cap) (hm : cap ≤ maxLen) (hP : P'.length = m) (ht : cur.toList.take m = nu P') : Kn w W' kb nv (.slice (some ⟨g, 0, none⟩) m cap) N P' := by
  have hgr : W.grownBy W' (Value.slice (some ⟨g, 0, none⟩) m cap).ownBlock := by simpa [Value.ownBlock] using hg
  have hB : w.heap.size ≤ g := (h.op.lt g (by simp [Value.ownBlock])).1
  refine ⟨(hgr.block kb h.size (Ne.symm (own_ne h.op h.row (by decide)))).trans h.row, h.hB, own_kept h.on_ h.op hgr (by decide), ⟨by simp [nu], .inr ⟨g, cap, cur, by rw [hP], hB, hr, by omega, hm, by simpa using hsz, by rw [hP, Nat.mul_one]; exact ht⟩⟩, h.below.grown hg h.below.size (fun j hj => by cases hj; exact hB)⟩
end
end Go.Proofs.YtfmmmhcpdinhgaaDoor
/-
  The law's lists and mark.
-/
namespace Go.Proofs.YtfmmmhcpdinhgaaDoor
open Go.RowKit Go.Deep PureNet
set_option maxRecDepth 100000


theorem grown_set {w w1 : World} {g i : Nat} {u : Value} (h : w.grownBy w1 (some g)) : w.grownBy (w1.setCell ⟨g, i, none⟩ u) (some g) :=
  ⟨h.os, h.tape, h.output, by simpa using h.size, fun k hk hne => (Below.heap_setCell w1 _ _ _ (fun e => hne (by rw [e]))).trans (h.block k hk hne)⟩


end Go.Proofs.YtfmmmhcpdinhgaaDoor
/-
  The document's own table of names: add.
-/
namespace Go.Proofs.YtfmmmhcpdinhgaaDoor
open Go.RowKit Go.Deep PureNet
set_option maxRecDepth 100000

theorem put_in {α : Type} (N : List α) (z s : α) (i : Nat) (h : i ≤ N.length) : ((N ++ [z]).take (i + 1) ++ N.drop i).set i s = N.take i ++ s :: N.drop i := by
  have h1 : (N ++ [z]).take (i + 1) = N.take i ++ [(N ++ [z])[i]'(by simp; omega)] := by
    rw [List.take_succ_eq_append_getElem (by simp; omega), List.take_append_of_le_length h]
  rw [h1, List.append_assoc, List.set_append_right _ _ (by simp; omega)]
  have h2 : i - (N.take i).length = 0 := by simp; omega
  rw [h2]
  rfl
theorem ns_one (N : List ByteArray) : ∀ v ∈ ns N, v.oneCell' = true := fun v hv => by simp only [ns, List.mem_map] at hv; obtain ⟨x, _, rfl⟩ := hv; rfl
theorem nu_one (P : List Int) : ∀ v ∈ nu P, v.oneCell' = true := fun v hv => by simp only [nu, List.mem_map] at hv; obtain ⟨x, _, rfl⟩ := hv; rfl

set_option maxHeartbeats 2000000 in
set_option maxRecDepth 100000 in
theorem add_any (kb : Nat) (nv pv : Value) (N : List ByteArray) (P : List Int) (s : ByteArray) (p : Int) (w0 w : World) (h : Kn w0 w kb nv pv N P) (hPl : P.length = N.length) (hr : Rising N) (hl : N.length ≤ 1048575) :
    Calls Tryd.prog 58 #[.pointer (some ⟨kb, 0, none⟩), .string s, .int .i64 p] w fun e w' => (∃ v, e = .returned v) ∧ ∃ nv' pv' i, Spot N s i ∧ Kn w0 w' kb nv' pv' (N.take i ++ s :: N.drop i) (P.take i ++ p :: P.drop i) := by
  obtain ⟨sn, cn, rfl⟩ := own_shape h.on_
  obtain ⟨sp, cp, rfl⟩ := own_shape h.op
  obtain ⟨sn2, cn2, he, hcn, _⟩ := own_cells h.on_
  cases he
  have FD := hid (find_any kb sn cn (.slice sp P.length cp) N s w h.row hcn hr (by omega))
  have K0 := hid h
  have HPL := hid hPl
  have HR := hid hr
  clear h hcn hPl hr
  go_enter Tryd.func58, Tryd.ntmps58
  go_wp2_with (fail)
  with_reducible refine FD.out.mono ?_
  rintro e w1 ⟨i, hsp, rfl, b1⟩
  have hile := hsp.le
  have k1 := K0.out.on b1
  have K1 := hid k1
  have SP := hid hsp
  have c1 := fun j => cell_row k1.row j
  have f1 := fun j => unfrozen_row k1.row j
  have hb1 := k1.size
  clear hsp b1 k1
  go_wp2_with (first
    | (rw [← HW5.out])
    | (rw [← HW3.out])
    | (have q := K3; clear q; at_builtin; refine mk_app rfl _ _ 22 _ 8 rfl Tryd.underlying22 info3 rfl (by decide) (⟨K3.out.op, K3.out.below⟩ : Mk w0 W3 3 1 (.slice sp P.length cp) P.length (nu P)) [.int .i64 0] 3 _ rfl rfl rfl rfl (fun u hu => by simp at hu; subst hu; rfl) (by have := HPL.out; omega) (by have := HPL.out; omega) ?_; intro sy cy w4 g4 m4; obtain ⟨hr4, hk5⟩ := (K3.out.on ((Below.refl _ _).alloc (Nat.le_refl _) _)).place m4.own g4; have c4 := fun j => cell_row hr4 j; have f4 := fun j => unfrozen_row hr4 j; have hb4 := (Array.getElem?_eq_some_iff.1 hr4).1; obtain ⟨W5, hW5⟩ : ∃ W5, W5 = w4.setCell ⟨kb, 1, none⟩ (.slice sy (P.length + 1) cy) := ⟨_, rfl⟩; rw [← hW5] at hk5; have HW5 := hid hW5; have K5 := hid hk5; have c5 := fun j => cell_row hk5.row j; have f5 := fun j => unfrozen_row hk5.row j; have hb5 := hk5.size; clear g4 m4 hr4 hk5 hW5)
    | (at_builtin; refine mk_app rfl _ _ 86 _ 16 rfl Tryd.underlying86 info9 rfl (by decide) (⟨K1.out.on_, K1.out.below⟩ : Mk w0 w1 9 1 (.slice sn N.length cn) N.length (ns N)) [.string ⟨#[]⟩] 9 _ rfl rfl rfl rfl (fun u hu => by simp at hu; subst hu; rfl) (by omega) (by omega) ?_; intro sx cx w2 g2 m2; obtain ⟨hr2, hk3⟩ := (K1.out.on ((Below.refl _ _).alloc (Nat.le_refl _) _)).name m2.own g2; have c2 := fun j => cell_row hr2 j; have f2 := fun j => unfrozen_row hr2 j; have hb2 := (Array.getElem?_eq_some_iff.1 hr2).1; obtain ⟨W3, hW3⟩ : ∃ W3, W3 = w2.setCell ⟨kb, 0, none⟩ (.slice sx (N.length + 1) cx) := ⟨_, rfl⟩; rw [← hW3] at hk3; have HW3 := hid hW3; have K3 := hid hk3; have c3 := fun j => cell_row hk3.row j; have f3 := fun j => unfrozen_row hk3.row j; have hb3 := hk3.size; clear g2 m2 hr2 hk3 hW3))
  obtain ⟨gn, cpn, curn, hvn, hrn, hBn, hnn, hmn, hsn, htn⟩ := own_open K5.out.on_ (by simp)
  simp only [List.length_append, List.length_cons, List.length_nil, Nat.zero_add, Value.slice.injEq, true_and] at hvn
  obtain ⟨rfl, rfl⟩ := hvn
  have hnn2 : N.length + 1 ≤ cx := by simpa using hnn
  obtain ⟨cur1, hcp1, hsz1, ht1⟩ := copy_up (W := W5.drew) (i := i) (n := N.length) (xs := ns N) (z := .string ⟨#[]⟩) Tryd.underlying86 size9 hrn hsn hnn2 hile (by simp [ns]) (by simpa [ns] using htn) (ns_one N) (by omega)
  obtain ⟨W6, hW6⟩ : ∃ W6, W6 = W5.drew.setRow gn cur1 := ⟨_, rfl⟩
  have hr6 : W6.heap[gn]? = some (.cells cur1 9 (0, 0)) := by rw [hW6]; exact setRow_heap _ _ curn _ 9 (0, 0) hrn
  have K6 : Hid (Kn w0 W6 kb (.slice (some ⟨gn, 0, none⟩) (N.length + 1) cx) (.slice sy (P.length + 1) cy) ((N ++ [(⟨#[]⟩ : ByteArray)]).take (i + 1) ++ N.drop i) (P ++ [0])) := by
    refine (K5.out.on (Below.refl _ _).drew).names (by rw [hW6]; exact setRow_grown _ _ _) hr6 hsz1 hnn2 (by simpa using hmn) (by simp; omega) (by rw [ht1]; simp [ns, List.map_take, List.map_drop])
  have a0 : W5.drew.cell? ⟨kb, 0, none⟩ = some (.slice (some ⟨gn, 0, none⟩) (N.length + 1) cx) := (c5 0).trans rfl
  have a6 : W6.cell? ⟨kb, 0, none⟩ = some (.slice (some ⟨gn, 0, none⟩) (N.length + 1) cx) := (cell_row K6.out.row 0).trans rfl
  have v1 : IntKind.i64.wrap ((i : Int) + 1) = (i : Int) + 1 := by rw [IntKind.wrap_i64]; omega
  have v2 : (0 : Int) ≤ (i : Int) + 1 := by omega
  have v3 : (i : Int) + 1 ≤ (N.length : Int) + 1 := by omega
  have v4 : ((i : Int) + 1).toNat = i + 1 := by omega
  have v5 : (i : Int) ≤ (N.length : Int) + 1 := by omega
  rw [← hW6] at hcp1
  have HW6 := hid hW6
  clear hW6 c1 f1 hb1 c2 f2 hb2 c3 f3 hb3 c4 f4 hb4 HW3 HW5 hrn hsn htn hsz1 ht1
  refine wp_region_noPanic ?_
  refine wp_region_held_drew (S := fun W => W.cell? ⟨kb, 0, none⟩ = some (.slice (some ⟨gn, 0, none⟩) (N.length + 1) cx)) (by kernel_rfl) a0 (fun hHeld => ?_)
  refine wpAnyH_take (i := 0) (v := ?_) (by simp only [List.getElem?_toArray, List.getElem?_cons_zero]; rfl) (by kernel_rfl) (by kernel_rfl) (by kernel_rfl) (fun _ _ _ h => h) (Or.inl ⟨by rfl, ?_⟩) (by assumption) ?_
  rotate_left 1
  · intro w hSw; (try dsimp only at hSw); go_simp; (try with_reducible rfl)
  try simp only [Act.put, List.setIfInBounds_toArray, List.set_cons_zero, List.set_cons_succ]
  refine wpAnyH_take (i := 1) (v := ?_) (by simp only [List.getElem?_toArray, List.getElem?_cons_succ, List.getElem?_cons_zero]; rfl) (by kernel_rfl) (by kernel_rfl) (by kernel_rfl) (fun _ _ _ h => h) (Or.inl ⟨by rfl, ?_⟩) (by assumption) ?_
  rotate_left 1
  · intro w hSw; (try dsimp only at hSw); go_simp; (try with_reducible rfl)
  try simp only [Act.put, List.setIfInBounds_toArray, List.set_cons_zero, List.set_cons_succ]
  refine wpAnyH_take (i := 2) (v := ?_) (by simp only [List.getElem?_toArray, List.getElem?_cons_succ, List.getElem?_cons_zero]; rfl) (by kernel_rfl) (by kernel_rfl) (by kernel_rfl) (fun _ _ _ h => h) (Or.inl ⟨by rfl, ?_⟩) (by assumption) ?_
  rotate_left 1
  · intro w hSw; (try dsimp only at hSw); go_simp; (try with_reducible rfl)
  try simp only [Act.put, List.setIfInBounds_toArray, List.set_cons_zero, List.set_cons_succ]
  refine wpAnyH_take (i := 3) (v := ?_) (by simp only [List.getElem?_toArray, List.getElem?_cons_succ, List.getElem?_cons_zero]; rfl) (by kernel_rfl) (by kernel_rfl) (by kernel_rfl) (fun _ _ _ h => h) (Or.inl ⟨by rfl, ?_⟩) (by assumption) ?_
  rotate_left 1
  · intro w hSw; (try dsimp only at hSw); go_simp; (try with_reducible rfl)
  try simp only [Act.put, List.setIfInBounds_toArray, List.set_cons_zero, List.set_cons_succ]
  refine wpAnyH_take (i := 4) (v := ?_) (by simp only [List.getElem?_toArray, List.getElem?_cons_succ, List.getElem?_cons_zero]; rfl) (by kernel_rfl) (by kernel_rfl) (by kernel_rfl) (fun _ _ _ h => h) (Or.inl ⟨by rfl, ?_⟩) (by assumption) ?_
  rotate_left 1
  · intro w hSw; (try dsimp only at hSw); go_simp; (try with_reducible rfl)
  try simp only [Act.put, List.setIfInBounds_toArray, List.set_cons_zero, List.set_cons_succ]
  refine wpAnyH_take (i := 5) (v := ?_) (by simp only [List.getElem?_toArray, List.getElem?_cons_succ, List.getElem?_cons_zero]; rfl) (by kernel_rfl) (by kernel_rfl) (by kernel_rfl) (fun _ _ _ h => h) (Or.inl ⟨by rfl, ?_⟩) (by assumption) ?_
  rotate_left 1
  · intro w hSw; (try dsimp only at hSw); go_simp; (try with_reducible rfl)
  try simp only [Act.put, List.setIfInBounds_toArray, List.set_cons_zero, List.set_cons_succ]
  refine wpAnyH_take (i := 6) (v := ?_) (by simp only [List.getElem?_toArray, List.getElem?_cons_succ, List.getElem?_cons_zero]; rfl) (by kernel_rfl) (by kernel_rfl) (by kernel_rfl) (fun _ _ _ h => h) (Or.inl ⟨by rfl, ?_⟩) (by assumption) ?_
  rotate_left 1
  · intro w hSw; (try dsimp only at hSw); go_simp; (try with_reducible rfl)
  try simp only [Act.put, List.setIfInBounds_toArray, List.set_cons_zero, List.set_cons_succ]
  refine wpAnyH_take (i := 7) (v := ?_) (by simp only [List.getElem?_toArray, List.getElem?_cons_succ, List.getElem?_cons_zero]; rfl) (by kernel_rfl) (by kernel_rfl) (by kernel_rfl) (fun _ _ _ h => h) (Or.inl ⟨by rfl, ?_⟩) (by assumption) ?_
  rotate_left 1
  · intro w hSw; (try dsimp only at hSw); go_simp; (try with_reducible rfl)
  try simp only [Act.put, List.setIfInBounds_toArray, List.set_cons_zero, List.set_cons_succ]
  refine wpAnyH_take (i := 8) (v := ?_) (by simp only [List.getElem?_toArray, List.getElem?_cons_succ, List.getElem?_cons_zero]; rfl) (by kernel_rfl) (by kernel_rfl) (by kernel_rfl) (fun _ _ _ h => h) (Or.inl ⟨by rfl, ?_⟩) (by assumption) ?_
  rotate_left 1
  · intro w hSw; (try dsimp only at hSw); go_simp; (try with_reducible rfl)
  try simp only [Act.put, List.setIfInBounds_toArray, List.set_cons_zero, List.set_cons_succ]
  refine wpAnyH_take (i := 9) (v := ?_) (by simp only [List.getElem?_toArray, List.getElem?_cons_succ, List.getElem?_cons_zero]; rfl) (by kernel_rfl) (by kernel_rfl) (by kernel_rfl) (fun _ _ _ h => h) (Or.inl ⟨by rfl, ?_⟩) (by assumption) ?_
  rotate_left 1
  · intro w hSw; (try dsimp only at hSw); go_simp; (try with_reducible rfl)
  try simp only [Act.put, List.setIfInBounds_toArray, List.set_cons_zero, List.set_cons_succ]
  refine wpAnyH_take (i := 10) (v := ?_) (by simp only [List.getElem?_toArray, List.getElem?_cons_succ, List.getElem?_cons_zero]; rfl) (by kernel_rfl) (by kernel_rfl) (by kernel_rfl) (fun _ _ _ h => h) (Or.inl ⟨by rfl, ?_⟩) (by assumption) ?_
  rotate_left 1
  · intro w hSw; (try dsimp only at hSw); go_simp; (try with_reducible rfl)
  try simp only [Act.put, List.setIfInBounds_toArray, List.set_cons_zero, List.set_cons_succ]
  refine wpAnyH_take (i := 11) (v := ?_) (by simp only [List.getElem?_toArray, List.getElem?_cons_succ, List.getElem?_cons_zero]; rfl) (by kernel_rfl) (by kernel_rfl) (by kernel_rfl) (fun _ _ _ h => h) (Or.inl ⟨by rfl, ?_⟩) (by assumption) ?_
  rotate_left 1
  · intro w hSw; (try dsimp only at hSw); go_simp; (try with_reducible rfl)
  try simp only [Act.put, List.setIfInBounds_toArray, List.set_cons_zero, List.set_cons_succ]
  refine wpAnyH_take (i := 12) (v := ?_) (by simp only [List.getElem?_toArray, List.getElem?_cons_succ, List.getElem?_cons_zero]; rfl) (by kernel_rfl) (by kernel_rfl) (by kernel_rfl) (fun _ _ _ h => h) (Or.inl ⟨by rfl, ?_⟩) (by assumption) ?_
  rotate_left 1
  · intro w hSw; (try dsimp only at hSw); go_simp; (try with_reducible rfl)
  try simp only [Act.put, List.setIfInBounds_toArray, List.set_cons_zero, List.set_cons_succ]
  refine wpAnyH_ready (rs := [13]) (by kernel_rfl) (by simp) ?_
  refine AllReadyH.cons (by simp only [List.getElem?_toArray, List.getElem?_cons_succ, List.getElem?_cons_zero]; rfl) (fun K hK => ?_) AllReadyH.nil
  go_simp
  clear hHeld
  refine hK.out _ _ a6 (fun hHeld => ?_)
  clear hK K
  try simp only [Act.put, List.setIfInBounds_toArray, List.set_cons_zero, List.set_cons_succ]
  refine wpAnyH_done (by kernel_rfl) ?_ _
  refine NoPanic.normal ?_
  go_wp2
  all_goals
    obtain ⟨gp, cpp, curp, hvp, hrp, hBp, hnp, hmp, hsp2, htp⟩ := own_open K6.out.op (by simp)
    simp only [List.length_append, List.length_cons, List.length_nil, Nat.zero_add, Value.slice.injEq, true_and] at hvp
    obtain ⟨rfl, rfl⟩ := hvp
    have hnp2 : P.length + 1 ≤ cy := by simpa using hnp
    have hilp : i ≤ P.length := by rw [HPL.out]; exact hile
    obtain ⟨cur2, hcp2, hsz2, ht2⟩ := copy_up (W := W6.drew) (i := i) (n := P.length) (xs := nu P) (z := .int .i64 0) Tryd.underlying22 size3 hrp hsp2 hnp2 hilp (by simp [nu]) (by simpa [nu] using htp) (nu_one P) (by omega)
    obtain ⟨W7, hW7⟩ : ∃ W7, W7 = W6.drew.setRow gp cur2 := ⟨_, rfl⟩
    have hr7 : W7.heap[gp]? = some (.cells cur2 3 (0, 0)) := by rw [hW7]; exact setRow_heap _ _ curp _ 3 (0, 0) hrp
    have K7 : Hid (Kn w0 W7 kb (.slice (some ⟨gn, 0, none⟩) (N.length + 1) cx) (.slice (some ⟨gp, 0, none⟩) (P.length + 1) cy) ((N ++ [(⟨#[]⟩ : ByteArray)]).take (i + 1) ++ N.drop i) ((P ++ [0]).take (i + 1) ++ P.drop i)) := by
      refine (K6.out.on (Below.refl _ _).drew).places (by rw [hW7]; exact setRow_grown _ _ _) hr7 hsz2 hnp2 (by simpa using hmp) (by simp; omega) (by rw [ht2]; simp [nu, List.map_take, List.map_drop])
    have b0 : W6.drew.cell? ⟨kb, 1, none⟩ = some (.slice (some ⟨gp, 0, none⟩) (P.length + 1) cy) := (cell_row K6.out.row 1).trans rfl
    have b7 : W7.cell? ⟨kb, 1, none⟩ = some (.slice (some ⟨gp, 0, none⟩) (P.length + 1) cy) := (cell_row K7.out.row 1).trans rfl
    have u3 : (i : Int) + 1 ≤ (P.length : Int) + 1 := by omega
    have u5 : (i : Int) ≤ (P.length : Int) + 1 := by omega
    rw [← hW7] at hcp2
    have HW7 := hid hW7
    clear hW7 hrp hsp2 htp a6 a0 hcp1
    refine wp_region_noPanic ?_
    refine wp_region_held_drew (S := fun W => W.cell? ⟨kb, 1, none⟩ = some (.slice (some ⟨gp, 0, none⟩) (P.length + 1) cy)) (by kernel_rfl) b0 (fun hHeld => ?_)
    refine wpAnyH_take (i := 0) (v := ?_) (by simp only [List.getElem?_toArray, List.getElem?_cons_zero]; rfl) (by kernel_rfl) (by kernel_rfl) (by kernel_rfl) (fun _ _ _ h => h) (Or.inl ⟨by rfl, ?_⟩) (by assumption) ?_
    rotate_left 1
    · intro w hSw; (try dsimp only at hSw); go_simp; (try with_reducible rfl)
    try simp only [Act.put, List.setIfInBounds_toArray, List.set_cons_zero, List.set_cons_succ]
    refine wpAnyH_take (i := 1) (v := ?_) (by simp only [List.getElem?_toArray, List.getElem?_cons_succ, List.getElem?_cons_zero]; rfl) (by kernel_rfl) (by kernel_rfl) (by kernel_rfl) (fun _ _ _ h => h) (Or.inl ⟨by rfl, ?_⟩) (by assumption) ?_
    rotate_left 1
    · intro w hSw; (try dsimp only at hSw); go_simp; (try with_reducible rfl)
    try simp only [Act.put, List.setIfInBounds_toArray, List.set_cons_zero, List.set_cons_succ]
    refine wpAnyH_take (i := 2) (v := ?_) (by simp only [List.getElem?_toArray, List.getElem?_cons_succ, List.getElem?_cons_zero]; rfl) (by kernel_rfl) (by kernel_rfl) (by kernel_rfl) (fun _ _ _ h => h) (Or.inl ⟨by rfl, ?_⟩) (by assumption) ?_
    rotate_left 1
    · intro w hSw; (try dsimp only at hSw); go_simp; (try with_reducible rfl)
    try simp only [Act.put, List.setIfInBounds_toArray, List.set_cons_zero, List.set_cons_succ]
    refine wpAnyH_take (i := 3) (v := ?_) (by simp only [List.getElem?_toArray, List.getElem?_cons_succ, List.getElem?_cons_zero]; rfl) (by kernel_rfl) (by kernel_rfl) (by kernel_rfl) (fun _ _ _ h => h) (Or.inl ⟨by rfl, ?_⟩) (by assumption) ?_
    rotate_left 1
    · intro w hSw; (try dsimp only at hSw); go_simp; (try with_reducible rfl)
    try simp only [Act.put, List.setIfInBounds_toArray, List.set_cons_zero, List.set_cons_succ]
    refine wpAnyH_take (i := 4) (v := ?_) (by simp only [List.getElem?_toArray, List.getElem?_cons_succ, List.getElem?_cons_zero]; rfl) (by kernel_rfl) (by kernel_rfl) (by kernel_rfl) (fun _ _ _ h => h) (Or.inl ⟨by rfl, ?_⟩) (by assumption) ?_
    rotate_left 1
    · intro w hSw; (try dsimp only at hSw); go_simp; (try with_reducible rfl)
    try simp only [Act.put, List.setIfInBounds_toArray, List.set_cons_zero, List.set_cons_succ]
    refine wpAnyH_take (i := 5) (v := ?_) (by simp only [List.getElem?_toArray, List.getElem?_cons_succ, List.getElem?_cons_zero]; rfl) (by kernel_rfl) (by kernel_rfl) (by kernel_rfl) (fun _ _ _ h => h) (Or.inl ⟨by rfl, ?_⟩) (by assumption) ?_
    rotate_left 1
    · intro w hSw; (try dsimp only at hSw); go_simp; (try with_reducible rfl)
    try simp only [Act.put, List.setIfInBounds_toArray, List.set_cons_zero, List.set_cons_succ]
    refine wpAnyH_take (i := 6) (v := ?_) (by simp only [List.getElem?_toArray, List.getElem?_cons_succ, List.getElem?_cons_zero]; rfl) (by kernel_rfl) (by kernel_rfl) (by kernel_rfl) (fun _ _ _ h => h) (Or.inl ⟨by rfl, ?_⟩) (by assumption) ?_
    rotate_left 1
    · intro w hSw; (try dsimp only at hSw); go_simp; (try with_reducible rfl)
    try simp only [Act.put, List.setIfInBounds_toArray, List.set_cons_zero, List.set_cons_succ]
    refine wpAnyH_take (i := 7) (v := ?_) (by simp only [List.getElem?_toArray, List.getElem?_cons_succ, List.getElem?_cons_zero]; rfl) (by kernel_rfl) (by kernel_rfl) (by kernel_rfl) (fun _ _ _ h => h) (Or.inl ⟨by rfl, ?_⟩) (by assumption) ?_
    rotate_left 1
    · intro w hSw; (try dsimp only at hSw); go_simp; (try with_reducible rfl)
    try simp only [Act.put, List.setIfInBounds_toArray, List.set_cons_zero, List.set_cons_succ]
    refine wpAnyH_take (i := 8) (v := ?_) (by simp only [List.getElem?_toArray, List.getElem?_cons_succ, List.getElem?_cons_zero]; rfl) (by kernel_rfl) (by kernel_rfl) (by kernel_rfl) (fun _ _ _ h => h) (Or.inl ⟨by rfl, ?_⟩) (by assumption) ?_
    rotate_left 1
    · intro w hSw; (try dsimp only at hSw); go_simp; (try with_reducible rfl)
    try simp only [Act.put, List.setIfInBounds_toArray, List.set_cons_zero, List.set_cons_succ]
    refine wpAnyH_take (i := 9) (v := ?_) (by simp only [List.getElem?_toArray, List.getElem?_cons_succ, List.getElem?_cons_zero]; rfl) (by kernel_rfl) (by kernel_rfl) (by kernel_rfl) (fun _ _ _ h => h) (Or.inl ⟨by rfl, ?_⟩) (by assumption) ?_
    rotate_left 1
    · intro w hSw; (try dsimp only at hSw); go_simp; (try with_reducible rfl)
    try simp only [Act.put, List.setIfInBounds_toArray, List.set_cons_zero, List.set_cons_succ]
    refine wpAnyH_take (i := 10) (v := ?_) (by simp only [List.getElem?_toArray, List.getElem?_cons_succ, List.getElem?_cons_zero]; rfl) (by kernel_rfl) (by kernel_rfl) (by kernel_rfl) (fun _ _ _ h => h) (Or.inl ⟨by rfl, ?_⟩) (by assumption) ?_
    rotate_left 1
    · intro w hSw; (try dsimp only at hSw); go_simp; (try with_reducible rfl)
    try simp only [Act.put, List.setIfInBounds_toArray, List.set_cons_zero, List.set_cons_succ]
    refine wpAnyH_take (i := 11) (v := ?_) (by simp only [List.getElem?_toArray, List.getElem?_cons_succ, List.getElem?_cons_zero]; rfl) (by kernel_rfl) (by kernel_rfl) (by kernel_rfl) (fun _ _ _ h => h) (Or.inl ⟨by rfl, ?_⟩) (by assumption) ?_
    rotate_left 1
    · intro w hSw; (try dsimp only at hSw); go_simp; (try with_reducible rfl)
    try simp only [Act.put, List.setIfInBounds_toArray, List.set_cons_zero, List.set_cons_succ]
    refine wpAnyH_take (i := 12) (v := ?_) (by simp only [List.getElem?_toArray, List.getElem?_cons_succ, List.getElem?_cons_zero]; rfl) (by kernel_rfl) (by kernel_rfl) (by kernel_rfl) (fun _ _ _ h => h) (Or.inl ⟨by rfl, ?_⟩) (by assumption) ?_
    rotate_left 1
    · intro w hSw; (try dsimp only at hSw); go_simp; (try with_reducible rfl)
    try simp only [Act.put, List.setIfInBounds_toArray, List.set_cons_zero, List.set_cons_succ]
    refine wpAnyH_ready (rs := [13]) (by kernel_rfl) (by simp) ?_
    refine AllReadyH.cons (by simp only [List.getElem?_toArray, List.getElem?_cons_succ, List.getElem?_cons_zero]; rfl) (fun K hK => ?_) AllReadyH.nil
    go_simp
    clear hHeld
    refine hK.out _ _ b7 (fun hHeld => ?_)
    clear hK K
    try simp only [Act.put, List.setIfInBounds_toArray, List.set_cons_zero, List.set_cons_succ]
    refine wpAnyH_done (by kernel_rfl) ?_ _
    refine NoPanic.normal ?_
    have c7 := fun j => cell_row K7.out.row j
    have hb7 := K7.out.size
    obtain ⟨gn2, cpn2, curn2, hvn2, hrn2, hBn2, hnn3, hmn2, hsn2, htn2⟩ := own_open K7.out.on_ (by simp; omega)
    simp only [Value.slice.injEq, Option.some.injEq, Addr.mk.injEq, and_true] at hvn2
    obtain ⟨rfl, hln2, rfl⟩ := hvn2
    have fn := fun j => unfrozen_row hrn2 j
    obtain ⟨vn, en⟩ : ∃ v, W7.cell? ⟨gn, i, none⟩ = some v := ⟨_, (cell_row hrn2 i).trans (Array.getElem?_eq_getElem (by omega))⟩
    have hgn7 := (Array.getElem?_eq_some_iff.1 hrn2).1
    obtain ⟨W8, hW8⟩ : ∃ W8, W8 = W7.setCell ⟨gn, i, none⟩ (.string s) := ⟨_, rfl⟩
    have hr8 : W8.heap[gn]? = some (.cells (curn2.setIfInBounds i (.string s)) 9 (0, 0)) := by rw [hW8]; exact row_set hrn2
    have K8 : Hid (Kn w0 W8 kb (.slice (some ⟨gn, 0, none⟩) (N.length + 1) cx) (.slice (some ⟨gp, 0, none⟩) (P.length + 1) cy) (N.take i ++ s :: N.drop i) ((P ++ [0]).take (i + 1) ++ P.drop i)) := by
      refine K7.out.names (by rw [hW8]; exact grown_set (World.grownBy.refl _ _)) hr8 (by simpa using hsn2) hnn2 hmn2 (by simp; omega) ?_
      rw [Array.toList_setIfInBounds, List.take_set, hln2, htn2, ← put_in N (⟨#[]⟩ : ByteArray) s i hile]
      simp [ns, List.map_set]
    have K7p := K7.out.op
    have c8 := fun j => cell_row K8.out.row j
    have hb8 := K8.out.size
    obtain ⟨gp2, cpp2, curp2, hvp2, hrp2, hBp2, hnp3, hmp2, hsp3, htp2⟩ := own_open K8.out.op (by simp; omega)
    simp only [Value.slice.injEq, Option.some.injEq, Addr.mk.injEq, and_true] at hvp2
    obtain ⟨rfl, hlp2, rfl⟩ := hvp2
    have fp := fun j => unfrozen_row hrp2 j
    obtain ⟨vp, ep⟩ : ∃ v, W8.cell? ⟨gp, i, none⟩ = some v := ⟨_, (cell_row hrp2 i).trans (Array.getElem?_eq_getElem (by omega))⟩
    have hgp8 := (Array.getElem?_eq_some_iff.1 hrp2).1
    obtain ⟨W9, hW9⟩ : ∃ W9, W9 = W8.setCell ⟨gp, i, none⟩ (.int .i64 p) := ⟨_, rfl⟩
    have hr9 : W9.heap[gp]? = some (.cells (curp2.setIfInBounds i (.int .i64 p)) 3 (0, 0)) := by rw [hW9]; exact row_set hrp2
    have K9 : Hid (Kn w0 W9 kb (.slice (some ⟨gn, 0, none⟩) (N.length + 1) cx) (.slice (some ⟨gp, 0, none⟩) (P.length + 1) cy) (N.take i ++ s :: N.drop i) (P.take i ++ p :: P.drop i)) := by
      refine K8.out.places (by rw [hW9]; exact grown_set (World.grownBy.refl _ _)) hr9 (by simpa using hsp3) hnp2 hmp2 (by simp; omega) ?_
      rw [Array.toList_setIfInBounds, List.take_set, hlp2, htp2, ← put_in P (0 : Int) p i hilp]
      simp [nu, List.map_set]
    have HW8 := hid hW8
    have HW9 := hid hW9
    clear hW8 hW9 hln2 hlp2 htn2 htp2 hsn2 hsp3 hr8 hr9 hrn2 hrp2 hcp2 K7p hnn hnp hnn3 hnp3 ht2 hsz2 hr7 hr6 c5 f5 hb5
    go_wp2_with (first
      | (rw [← HW8.out])
      | (rw [← HW9.out]))
    all_goals first | go_end0 | refine bodyPost_end (results_none rfl _ _ _) rfl ?_
    all_goals exact ⟨⟨_, rfl⟩, _, _, i, SP.out, K9.out⟩
end Go.Proofs.YtfmmmhcpdinhgaaDoor
