import Derived.Test.YtfmmmhcpdinhgabDoorZ02
/-
  The program's names.
-/
namespace Go.Proofs.YtfmmmhcpdinhgabDoor
open Go.RowKit Go.Deep PureNet
set_option maxRecDepth 100000

set_option maxHeartbeats 1000000 in
theorem begins_any (c : UInt8) (w : World) : Calls Tryd.prog 58 #[.int .u8 (c.toNat : Int)] w fun e w' => e = .returned (.bool (letB c)) ∧ w' = w := by
  have hc : (c.toNat : Int) ≤ 255 := by have := c.toNat_lt; omega
  by_cases h1 : 97 ≤ (c.toNat : Int)
  · by_cases h2 : (c.toNat : Int) ≤ 122
    · have HD : Hid (letB c = true) := by show _ = _; unfold letB; simp; omega
      go_enter Tryd.func58, Tryd.ntmps58
      go_wp2
      go_ret
      rw [HD.out]
      exact ⟨rfl, rfl⟩
    · have HD : Hid (letB c = false) := by show _ = _; unfold letB; simp; omega
      have h3 : 65 ≤ (c.toNat : Int) := by omega
      have h4 : ¬ (c.toNat : Int) ≤ 90 := by omega
      have h5 : ((c.toNat : Int) == 95) = false := beq_eq_false_iff_ne.2 (by omega)
      go_enter Tryd.func58, Tryd.ntmps58
      go_wp2
      go_ret
      rw [HD.out]
      exact ⟨rfl, rfl⟩
  · by_cases h3 : 65 ≤ (c.toNat : Int)
    · by_cases h4 : (c.toNat : Int) ≤ 90
      · have HD : Hid (letB c = true) := by show _ = _; unfold letB; simp; omega
        go_enter Tryd.func58, Tryd.ntmps58
        go_wp2
        go_ret
        rw [HD.out]
        exact ⟨rfl, rfl⟩
      · by_cases h5 : (c.toNat : Int) = 95
        · have HD : Hid (letB c = true) := by show _ = _; unfold letB; simp; omega
          go_enter Tryd.func58, Tryd.ntmps58
          go_wp2
          go_ret
          rw [HD.out]
          exact ⟨rfl, rfl⟩
        · have HD : Hid (letB c = false) := by show _ = _; unfold letB; simp; omega
          have h6 : ((c.toNat : Int) == 95) = false := beq_eq_false_iff_ne.2 h5
          clear h5
          go_enter Tryd.func58, Tryd.ntmps58
          go_wp2
          go_ret
          rw [HD.out]
          exact ⟨rfl, rfl⟩
    · have HD : Hid (letB c = false) := by show _ = _; unfold letB; simp; omega
      have h5 : ((c.toNat : Int) == 95) = false := beq_eq_false_iff_ne.2 (by omega)
      go_enter Tryd.func58, Tryd.ntmps58
      go_wp2
      go_ret
      rw [HD.out]
      exact ⟨rfl, rfl⟩

def goB (c : UInt8) : Bool := decide ((48 ≤ c.toNat ∧ c.toNat ≤ 57) ∨ c.toNat = 46)
set_option maxHeartbeats 1000000 in
theorem goesOn_any (c : UInt8) (w : World) : Calls Tryd.prog 59 #[.int .u8 (c.toNat : Int)] w fun e w' => e = .returned (.bool (goB c)) ∧ w' = w := by
  have hc : (c.toNat : Int) ≤ 255 := by have := c.toNat_lt; omega
  by_cases h1 : 48 ≤ (c.toNat : Int)
  · by_cases h2 : (c.toNat : Int) ≤ 57
    · have HD : Hid (goB c = true) := by show _ = _; unfold goB; simp; omega
      go_enter Tryd.func59, Tryd.ntmps59
      go_wp2
      go_ret
      rw [HD.out]
      exact ⟨rfl, rfl⟩
    · have HD : Hid (goB c = false) := by show _ = _; unfold goB; simp; omega
      have h5 : ((c.toNat : Int) == 46) = false := beq_eq_false_iff_ne.2 (by omega)
      go_enter Tryd.func59, Tryd.ntmps59
      go_wp2
      go_ret
      rw [HD.out]
      exact ⟨rfl, rfl⟩
  · by_cases h5 : (c.toNat : Int) = 46
    · have HD : Hid (goB c = true) := by show _ = _; unfold goB; simp; omega
      go_enter Tryd.func59, Tryd.ntmps59
      go_wp2
      go_ret
      rw [HD.out]
      exact ⟨rfl, rfl⟩
    · have HD : Hid (goB c = false) := by show _ = _; unfold goB; simp; omega
      have h6 : ((c.toNat : Int) == 46) = false := beq_eq_false_iff_ne.2 h5
      clear h5
      go_enter Tryd.func59, Tryd.ntmps59
      go_wp2
      go_ret
      rw [HD.out]
      exact ⟨rfl, rfl⟩

theorem nameB_all (s : ByteArray) (h0 : 0 < s.size) (h1 : s.size ≤ 32) (h : ∀ q, (hq : q < s.size) → letB (s[q]'hq) = true ∨ (0 < q ∧ goB (s[q]'hq) = true)) : nameB s = true := by
  rw [nameB_of s h0 h1, Bool.and_eq_true]
  refine ⟨?_, decide_eq_true fun q hq hp => ?_⟩
  · rcases h 0 h0 with h | ⟨h, _⟩
    · exact h
    · omega
  · unfold nameCB
    rcases h q hq with h | ⟨_, h⟩
    · rw [h]; rfl
    · unfold goB at h; rw [h]; simp
theorem nameB_not (s : ByteArray) (q : Nat) (hq : q < s.size) (h1 : letB (s[q]'hq) = false) (h2 : q = 0 ∨ goB (s[q]'hq) = false) : nameB s = false := by
  by_cases h32 : 32 < s.size
  · exact nameB_long s h32
  rw [nameB_of s (by omega) (by omega)]
  by_cases h0 : q = 0
  · subst h0
    rw [h1, Bool.false_and]
  · rw [decide_eq_false, Bool.and_false]
    intro h
    have := h q hq (by omega)
    unfold nameCB at this
    rw [h1, Bool.false_or] at this
    rcases h2 with h2 | h2
    · exact h0 h2
    · unfold goB at h2; rw [h2] at this; cases this

set_option maxHeartbeats 2000000 in
theorem isName_any (s : ByteArray) (w : World) (hs : s.size ≤ 140737488351232) : Calls Tryd.prog 46 #[.string s] w fun e w' => e = .returned (.bool (nameB s)) ∧ w' = w := by
  by_cases h0 : s.size = 0
  · have e0 : s = ⟨#[]⟩ := by
      obtain ⟨d⟩ := s
      congr
      exact Array.eq_empty_of_size_eq_zero h0
    subst e0
    have HD : Hid (nameB ⟨#[]⟩ = false) := rfl
    go_enter Tryd.func46, Tryd.ntmps46
    go_wp2
    go_ret
    refine ⟨?_, rfl⟩
    rw [HD.out]
    rfl
  have hneb : s.toList.isEmpty = false := by
    rw [ByteArray.toList_eq]
    cases h : s.data.toList with
    | nil => exact absurd (by simpa using congrArg List.length h) h0
    | cons a l => rfl
  by_cases h32 : 32 < s.size
  · have HD := hid (nameB_long s h32)
    have h33 : (32 : Int) < (s.size : Int) := by omega
    go_enter Tryd.func46, Tryd.ntmps46
    go_wp2
    go_ret
    rw [HD.out]
    exact ⟨rfl, rfl⟩
  have h33 : ¬ (32 : Int) < (s.size : Int) := by omega
  go_enter Tryd.func46, Tryd.ntmps46
  go_wp2
  go_loopw [14] (fun iv W => ∃ i : Nat, i ≤ s.size ∧ iv = .int .i64 (i : Int) ∧ W = w ∧ Hid (∀ q, (hq : q < s.size) → q < i → letB (s[q]'hq) = true ∨ (0 < q ∧ goB (s[q]'hq) = true))) (fun iv _ => s.size - (intOf iv).toNat)
  case atStart => exact ⟨0, Nat.zero_le _, rfl, rfl, fun q _ h => by omega⟩
  case round =>
    obtain ⟨i, hi, rfl, rfl, HR⟩ := hrel
    by_cases hlt : i < s.size
    · have hr := HR.out
      clear HR
      have LI := hid (fun W => begins_any (s[i]'hlt) W)
      have GI := hid (fun W => goesOn_any (s[i]'hlt) W)
      have NX : (letB (s[i]'hlt) = true ∨ (0 < i ∧ goB (s[i]'hlt) = true)) → Hid (∀ q, (hq : q < s.size) → q < i + 1 → letB (s[q]'hq) = true ∨ (0 < q ∧ goB (s[q]'hq) = true)) := fun h q hq h1 => by
        by_cases e : q = i
        · subst e; exact h
        · exact hr q hq (by omega)
      have NO : letB (s[i]'hlt) = false → (i = 0 ∨ goB (s[i]'hlt) = false) → Hid (nameB s = false) := fun h1 h2 => nameB_not s i hlt h1 h2
      clear hr
      cases hcl : letB (s[i]'hlt) with
      | true =>
        have HN := NX (.inl hcl)
        rw [hcl] at LI
        clear NX NO hcl
        go_wp2_with (first | (go_at_call 58; with_reducible refine (LI.out _).mono ?_; rintro e w2 ⟨rfl, rfl⟩))
        exact ⟨⟨i + 1, hlt, by go_num, by first | rfl | trivial, HN.out⟩, by simp [intOf]; omega⟩
      | false =>
        rw [hcl] at LI
        by_cases hi0 : i = 0
        · have HN := NO hcl (.inl hi0)
          have hib : ((i : Int) == 0) = true := by rw [hi0]; rfl
          clear NX NO hcl hi0
          go_wp2_with (first | (go_at_call 58; with_reducible refine (LI.out _).mono ?_; rintro e w2 ⟨rfl, rfl⟩))
          go_ret
          rw [HN.out]
          exact ⟨rfl, rfl⟩
        · have hib : ((i : Int) == 0) = false := beq_eq_false_iff_ne.2 (by omega)
          cases hcg : goB (s[i]'hlt) with
          | true =>
            have HN := NX (.inr ⟨by omega, hcg⟩)
            rw [hcg] at GI
            clear NX NO hcl hcg
            go_wp2_with (first | (go_at_call 59; with_reducible refine (GI.out _).mono ?_; rintro e w2 ⟨rfl, rfl⟩) | (go_at_call 58; with_reducible refine (LI.out _).mono ?_; rintro e w2 ⟨rfl, rfl⟩))
            exact ⟨⟨i + 1, hlt, by go_num, by first | rfl | trivial, HN.out⟩, by simp [intOf]; omega⟩
          | false =>
            have HN := NO hcl (.inr hcg)
            rw [hcg] at GI
            clear NX NO hcl hcg
            go_wp2_with (first | (go_at_call 59; with_reducible refine (GI.out _).mono ?_; rintro e w2 ⟨rfl, rfl⟩) | (go_at_call 58; with_reducible refine (LI.out _).mono ?_; rintro e w2 ⟨rfl, rfl⟩))
            go_ret
            rw [HN.out]
            exact ⟨rfl, rfl⟩
    · have HF : Hid (nameB s = true) := nameB_all s (by omega) (by omega) (fun q hq => HR.out q hq (by omega))
      clear HR
      go_wp2
      go_ret
      rw [HF.out]
      exact ⟨rfl, rfl⟩
end Go.Proofs.YtfmmmhcpdinhgabDoor
/-
  The reader in memory.
-/
namespace Go.Proofs.YtfmmmhcpdinhgabDoor
open Go.RowKit Go.Deep PureNet Go.Maps Go.WideShapes PureRd
set_option maxRecDepth 100000

/-- all blocks but those of cells of type t, and m, stay. -/
abbrev Oth (t : Nat) (m : Option Nat) (W W' : World) : Prop := Lib.OthersKept t m W W'
theorem Oth.of_below {t : Nat} {m : Option Nat} {W W' : World} (h : Below W.heap.size W W') : Oth t m W W' := fun k _ hk _ _ => (h.block k (Array.getElem?_eq_some_iff.1 hk).1).trans hk

/-- words as a slice shows them. -/
def WRow (W : World) (M : Nat) (v : Value) (ws : List Wd) : Prop := ∃ sa c, v = .slice sa ws.length c ∧ ws.length ≤ c ∧ (ws ≠ [] → ∃ g o cur fz, sa = some ⟨g, o, none⟩ ∧ g < M ∧ W.heap[g]? = some (.cells cur 64 fz) ∧ ∀ (j : Nat) (x : Wd), ws[j]? = some x → cur[o + j * 2]? = some (str x.1) ∧ cur[o + j * 2 + 1]? = some (.int .i64 (x.2 : Int)))
theorem WRow.nil (W : World) (M : Nat) : WRow W M (.slice none 0 0) [] := ⟨none, 0, rfl, Nat.le_refl _, fun h => absurd rfl h⟩
theorem WRow.kept {t : Nat} {m : Option Nat} {M : Nat} {W W' : World} {v : Value} {ws : List Wd} (h : WRow W M v ws) (hk : Oth t m W W') (ht : t ≠ 64) (hm : ∀ k c fz, m = some k → W.heap[k]? ≠ some (.cells c 64 fz)) : WRow W' M v ws := by
  obtain ⟨sa, c, hv, hc, hr⟩ := h
  refine ⟨sa, c, hv, hc, fun h0 => ?_⟩
  obtain ⟨g, o, cur, fz, e, hM, hg, hx⟩ := hr h0
  refine ⟨g, o, cur, fz, e, hM, hk g _ hg (fun e => hm g cur fz e.symm hg) (fun c2 f2 e => ?_), hx⟩
  simp only [Obj.cells.injEq] at e
  exact ht e.2.1.symm

def fcode : Option (Int × Nat) → Int
  | none => 0
  | some p => p.1
def fline (text : List UInt8) : Option (Int × Nat) → Int
  | none => 0
  | some p => ((spotN (text.take p.2)).1 : Int)
def fcol (text : List UInt8) : Option (Int × Nat) → Int
  | none => 0
  | some p => ((spotN (text.take p.2)).2 : Int)
/-- where the reader's parts lie. -/
structure Bx where
  rm : Value
  lf : Value
  ln : Value
  pm : Nat
  nv : Value
  us : List Value
  mx : Nat
def boxV (text : List UInt8) (s : Rs) (x : Bx) : Array Value := #[str text, x.rm, x.lf, str s.last.1, .int .i64 (s.last.2 : Int), x.ln, .int .i64 (s.outs : Int), .map (some x.pm), x.nv, str s.cname, .slice none 0 0, .slice none 0 0, .int .i64 (fcode s.fault), .int .i64 (fline text s.fault), .int .i64 (fcol text s.fault)]

/-- which step a first word means. -/
def fnOf (mode : Nat) (k : List UInt8) : Option Nat :=
  if mode = 0 then (if k = [99, 105, 114, 99, 117, 105, 116] then some 15 else none)
  else if mode = 1 then (if k = [105, 110, 112, 117, 116] then some 27 else if k = [103, 97, 116, 101] then some 28 else if k = [109, 117, 120] then some 29 else if k = [108, 97, 116, 99, 104] then some 30 else if k = [111, 117, 116, 112, 117, 116] then some 31 else if k = [101, 110, 100] then some 32 else none)
  else none
def rfn : Value → Option (DataW Unit × List MemPlace)
  | .func (.func f) #[] #[] => some (.lit (.int .i64 (f : Int)), [])
  | .nilFunc => some (.lit (.int .i64 (-1)), [])
  | _ => none
/-- the first words that may come, in memory. -/
def RM (W : World) (rm : Value) (mode : Nat) : Prop :=
  (2 ≤ mode ∧ rm = .map none) ∨ (mode < 2 ∧ ∃ m n D, rm = .map (some m) ∧ W.ownsMap Tryd.prog 9 rfn m n D ∧ ∀ k, has D (.string k) = (fnOf mode k).isSome ∧ ∀ f z, fnOf mode k = some f → D.atKey (.string k) z = .lit (.int .i64 (f : Int)))
/-- the places by their names, in memory. -/
def PM (W : World) (pm : Nat) (s : Rs) : Prop := ∃ (n : Nat) (D : DataW Unit), W.ownsMap Tryd.prog 9 (plainElem Tryd.prog 3) pm n D ∧ n ≤ s.places.length ∧ ∀ k, has D (.string k) = (placeOf s k).isSome ∧ ∀ p z, placeOf s k = some p → D.atKey (.string k) z = .lit (.int .i64 (p : Int))
def lnV (l : Ln) (u : Value) : List Value := [.int .i64 l.kind, str l.name, .int .i64 l.op, .int .i64 0, .int .i64 0, .int .i64 0, u]
def lnsV (l : List Ln) (us : List Value) : List Value := (l.zip us).flatMap fun p => lnV p.1 p.2
def nats (l : List Nat) : List Value := l.map fun (n : Nat) => Value.int .i64 (n : Int)
/-- words lie within the text. -/
def InT (N : Nat) (x : Wd) : Prop := x.2 + x.1.length ≤ N
/-- the reader at b: all that it has lies from B on. -/
structure Rt (W : World) (B b : Nat) (text : List UInt8) (s : Rs) (x : Bx) : Prop where
  base : B ≤ b
  box : W.heap[b]? = some (.cells (boxV text s x) 67 (0, 0))
  mode : RM W x.rm s.mode
  left : WRow W x.mx x.lf s.left
  lines : W.ownsRow B 87 7 x.ln s.lines.length (lnsV s.lines x.us)
  many : x.us.length = s.lines.length
  uses : ∀ (i : Nat) (l : Ln) (u : Value), s.lines[i]? = some l → x.us[i]? = some u → WRow W x.mx u l.uses
  places : PM W x.pm s
  names : W.ownsRow B 3 1 x.nv s.names.length (nats s.names)
  small : text.length ≤ 1048576
  inl : ∀ y ∈ s.left, InT text.length y
  inla : InT text.length s.last
  inn : ∀ y ∈ s.names, y ≤ text.length
  inu : ∀ l ∈ s.lines, ∀ y ∈ l.uses, InT text.length y
  few : s.places.length ≤ 1099511627776
  fewL : s.lines.length ≤ 1099511627776
  fewN : s.names.length ≤ 1099511627776
  fewO : s.outs ≤ 1099511627776
  flt : ∀ p, s.fault = some p → p.1 ≠ 0
  mxl : x.mx ≤ W.heap.size
  two : ∀ m, x.rm = .map (some m) → m ≠ x.pm
  pmB : B ≤ x.pm

theorem RM.kept {t b : Nat} {W W' : World} {rm : Value} {mode : Nat} (h : RM W rm mode) (hk : Oth t (some b) W W') (hb : ∃ c tt fz, W.heap[b]? = some (.cells c tt fz)) : RM W' rm mode := by
  rcases h with h | ⟨hm, m, n, D, e, ⟨es, cl, ho, r⟩, hD⟩
  · exact .inl h
  · refine .inr ⟨hm, m, n, D, e, ⟨es, cl, hk m _ ho (fun e => ?_) (fun _ _ e => by cases e), r⟩, hD⟩
    obtain rfl := Option.some.inj e
    obtain ⟨c, tt, fz, h2⟩ := hb
    rw [ho] at h2
    cases h2
theorem PM.kept {t b : Nat} {W W' : World} {pm : Nat} {s : Rs} (h : PM W pm s) (hk : Oth t (some b) W W') (hb : ∃ c tt fz, W.heap[b]? = some (.cells c tt fz)) : PM W' pm s := by
  obtain ⟨n, D, ⟨es, cl, ho, r⟩, hn, hD⟩ := h
  refine ⟨n, D, ⟨es, cl, hk pm _ ho (fun e => ?_) (fun _ _ e => by cases e), r⟩, hn, hD⟩
  obtain rfl := Option.some.inj e
  obtain ⟨c, tt, fz, h2⟩ := hb
  rw [ho] at h2
  cases h2
theorem own_oth {t B e size n : Nat} {m : Option Nat} {W W' : World} {v : Value} {xs : List Value} (h : W.ownsRow B e size v n xs) (hk : Oth t m W W') (hne : e ≠ t) (hm : ∀ k c fz, m = some k → W.heap[k]? ≠ some (.cells c e fz)) : W'.ownsRow B e size v n xs := by
  refine ⟨h.1, ?_⟩
  rcases h.2 with hn | ⟨g, cap, cur, hv, hb, hr, rest⟩
  · exact .inl hn
  · refine .inr ⟨g, cap, cur, hv, hb, hk g _ hr (fun e2 => hm g cur (0, 0) e2.symm hr) (fun c2 f2 e2 => ?_), rest⟩
    simp only [Obj.cells.injEq] at e2
    exact hne e2.2.1
/-- what lies beside the reader's own block stays: rows and maps. -/
theorem Rt.beside {W W' : World} {B b : Nat} {text : List UInt8} {s : Rs} {x : Bx} (h : Rt W B b text s x) (hk : Oth 67 (some b) W W') :
    RM W' x.rm s.mode ∧ WRow W' x.mx x.lf s.left ∧ W'.ownsRow B 87 7 x.ln s.lines.length (lnsV s.lines x.us) ∧ (∀ (i : Nat) (l : Ln) (u : Value), s.lines[i]? = some l → x.us[i]? = some u → WRow W' x.mx u l.uses) ∧ PM W' x.pm s ∧ W'.ownsRow B 3 1 x.nv s.names.length (nats s.names) := by
  have hb : ∀ (tt : Nat), tt ≠ 67 → ∀ k c fz, some b = some k → W.heap[k]? ≠ some (.cells c tt fz) := fun tt ht k c fz e h2 => by
    obtain rfl := Option.some.inj e
    rw [h.box] at h2
    simp only [Option.some.injEq, Obj.cells.injEq] at h2
    exact ht h2.2.1.symm
  exact ⟨h.mode.kept hk ⟨_, _, _, h.box⟩, h.left.kept hk (by decide) (hb 64 (by decide)), own_oth h.lines hk (by decide) (hb 87 (by decide)), fun i l u hl hu => (h.uses i l u hl hu).kept hk (by decide) (hb 64 (by decide)), h.places.kept hk ⟨_, _, _, h.box⟩, own_oth h.names hk (by decide) (hb 3 (by decide))⟩
/-- old blocks stay: all stays. -/
theorem Rt.on {W W' : World} {B b : Nat} {text : List UInt8} {s : Rs} {x : Bx} (h : Rt W B b text s x) (hb : Below W.heap.size W W') : Rt W' B b text s x := by
  obtain ⟨h1, h2, h3, h4, h5, h6⟩ := h.beside (Oth.of_below hb)
  exact ⟨h.base, (hb.block b (Array.getElem?_eq_some_iff.1 h.box).1).trans h.box, h1, h2, h3, h.many, h4, h5, h6, h.small, h.inl, h.inla, h.inn, h.inu, h.few, h.fewL, h.fewN, h.fewO, h.flt, Nat.le_trans h.mxl hb.size, h.two, h.pmB⟩
/-- a block of words that the reader does not show is written over. -/
theorem Rt.aside {W W' : World} {B b k : Nat} {text : List UInt8} {s : Rs} {x : Bx} (h : Rt W B b text s x) (hs : W.heap.size ≤ W'.heap.size) (hk : ∀ j o, W.heap[j]? = some o → j ≠ k → W'.heap[j]? = some o) (h74 : ∃ c fz, W.heap[k]? = some (.cells c 64 fz)) (hM : x.mx ≤ k) : Rt W' B b text s x := by
  obtain ⟨c0, fz0, h74⟩ := h74
  have tne : ∀ {j : Nat} {c : Array Value} {t : Nat} {fz : Nat × Nat}, W.heap[j]? = some (.cells c t fz) → t ≠ 64 → j ≠ k := fun hj ht e => by
    rw [e, h74] at hj
    simp only [Option.some.injEq, Obj.cells.injEq] at hj
    exact ht hj.2.1.symm
  have wrow : ∀ {v : Value} {ws : List Wd}, WRow W x.mx v ws → WRow W' x.mx v ws := fun ⟨sa, c, hv, hc, hr⟩ => ⟨sa, c, hv, hc, fun h0 => by
    obtain ⟨g, o, cur, fz, e, hgM, hg, hx⟩ := hr h0
    exact ⟨g, o, cur, fz, e, hgM, hk g _ hg (by omega), hx⟩⟩
  have mne : ∀ {j : Nat} {es : Array MapEntry} {cl : Nat}, W.heap[j]? = some (.map es cl) → j ≠ k := fun hj e => by
    rw [e, h74] at hj
    cases hj
  have own : ∀ {e size n : Nat} {v : Value} {xs : List Value}, W.ownsRow B e size v n xs → e ≠ 64 → W'.ownsRow B e size v n xs := fun ho he => by
    refine ⟨ho.1, ?_⟩
    rcases ho.2 with hn | ⟨g, cap, cur, hv, hb, hr, rest⟩
    · exact .inl hn
    · exact .inr ⟨g, cap, cur, hv, hb, hk g _ hr (tne hr he), rest⟩
  refine ⟨h.base, hk b _ h.box (tne h.box (by decide)), ?_, wrow h.left, own h.lines (by decide), h.many, fun i l u hl hu => wrow (h.uses i l u hl hu), ?_, own h.names (by decide), h.small, h.inl, h.inla, h.inn, h.inu, h.few, h.fewL, h.fewN, h.fewO, h.flt, Nat.le_trans h.mxl hs, h.two, h.pmB⟩
  · rcases h.mode with hm | ⟨hm, m, n, D, e, ⟨es, cl, ho, r⟩, hD⟩
    · exact .inl hm
    · exact .inr ⟨hm, m, n, D, e, ⟨es, cl, hk m _ ho (mne ho), r⟩, hD⟩
  · obtain ⟨n, D, ⟨es, cl, ho, r⟩, hn, hD⟩ := h.places
    exact ⟨n, D, ⟨es, cl, hk _ _ ho (mne ho), r⟩, hn, hD⟩
theorem oth74 {W W' : World} {b k : Nat} {c : Array Value} {fz : Nat × Nat} (h : Oth 67 (some b) W W') (hk : W.heap[k]? = some (.cells c 64 fz)) (hkb : k ≠ b) : W'.heap[k]? = some (.cells c 64 fz) :=
  h k _ hk (fun e => hkb (Option.some.inj e)) (fun c2 f2 e => by simp only [Obj.cells.injEq] at e; exact absurd e.2.1 (by decide))
end Go.Proofs.YtfmmmhcpdinhgabDoor
/-
  The reader's refuse, take.
-/
namespace Go.Proofs.YtfmmmhcpdinhgabDoor
open Go.RowKit Go.Deep PureNet PureRd
set_option maxRecDepth 100000

/-- the reader's block is written over. -/
theorem Rt.write {W W' : World} {B b : Nat} {text : List UInt8} {s s' : Rs} {x : Bx} {lf : Value} (h : Rt W B b text s x) (hk : Oth 67 (some b) W W') (hb : W'.heap[b]? = some (.cells (boxV text s' { x with lf := lf }) 67 (0, 0)))
    (e1 : s'.mode = s.mode) (e2 : WRow W' x.mx lf s'.left) (hsz : W.heap.size ≤ W'.heap.size) (e2' : ∀ y ∈ s'.left, InT text.length y) (e3 : s'.lines = s.lines) (e4 : s'.places = s.places) (e5 : s'.names = s.names) (hl : InT text.length s'.last) (ho : s'.outs ≤ 1099511627776) (hf : ∀ p, s'.fault = some p → p.1 ≠ 0) : Rt W' B b text s' { x with lf := lf } := by
  obtain ⟨h1, h2, h3, h4, h5, h6⟩ := h.beside hk
  refine ⟨h.base, hb, by rw [e1]; exact h1, e2, by rw [e3]; exact h3, by rw [e3]; exact h.many, by rw [e3]; exact h4, ?_, by rw [e5]; exact h6, h.small, e2', hl, by rw [e5]; exact h.inn, by rw [e3]; exact h.inu, by rw [e4]; exact h.few, by rw [e3]; exact h.fewL, by rw [e5]; exact h.fewN, ho, hf, Nat.le_trans h.mxl hsz, h.two, h.pmB⟩
  obtain ⟨n, D, q1, q2, q3⟩ := h5
  refine ⟨n, D, q1, by rw [e4]; exact q2, fun k => ?_⟩
  have : placeOf s' k = placeOf s k := by unfold placeOf; rw [e4]
  rw [this]
  exact q3 k
/-- the cells of the reader's block. -/
theorem box_cells {W : World} {b : Nat} {text : List UInt8} {s : Rs} {x : Bx} (h : W.heap[b]? = some (.cells (boxV text s x) 67 (0, 0))) :
    W.cell? ⟨b, 0, none⟩ = some (str text) ∧ W.cell? ⟨b, 1, none⟩ = some x.rm ∧ W.cell? ⟨b, 2, none⟩ = some x.lf ∧ W.cell? ⟨b, 3, none⟩ = some (str s.last.1) ∧ W.cell? ⟨b, 4, none⟩ = some (.int .i64 (s.last.2 : Int)) ∧ W.cell? ⟨b, 5, none⟩ = some x.ln ∧ W.cell? ⟨b, 6, none⟩ = some (.int .i64 (s.outs : Int)) ∧ W.cell? ⟨b, 7, none⟩ = some (.map (some x.pm)) ∧ W.cell? ⟨b, 8, none⟩ = some x.nv ∧ W.cell? ⟨b, 9, none⟩ = some (str s.cname) ∧ W.cell? ⟨b, 10, none⟩ = some (.slice none 0 0) ∧ W.cell? ⟨b, 11, none⟩ = some (.slice none 0 0) ∧ W.cell? ⟨b, 12, none⟩ = some (.int .i64 (fcode s.fault)) ∧ W.cell? ⟨b, 13, none⟩ = some (.int .i64 (fline text s.fault)) ∧ W.cell? ⟨b, 14, none⟩ = some (.int .i64 (fcol text s.fault)) ∧ b < W.heap.size ∧ ∀ j, W.frozen? ⟨b, j, none⟩ = false := by
  have q := fun j => cell_row h j
  exact ⟨q 0, q 1, q 2, q 3, q 4, q 5, q 6, q 7, q 8, q 9, q 10, q 11, q 12, q 13, q 14, (Array.getElem?_eq_some_iff.1 h).1, fun j => unfrozen_row h j⟩
theorem refuse_last (s : Rs) (c : Int) (a : Nat) : (refuse s c a).last = s.last := by unfold refuse; split <;> rfl
theorem set_self {W : World} {b : Nat} {cs : Array Value} {t : Nat} {fz : Nat × Nat} (h : W.heap[b]? = some (.cells cs t fz)) (j : Nat) {u : Value} (hu : cs[j]? = some u) : W.setCell ⟨b, j, none⟩ u = W := by
  rw [setCell_eq_setRow W b j cs t fz u h]
  have : cs.setIfInBounds j u = cs := by
    apply Array.ext_getElem?
    intro k
    rw [Array.getElem?_setIfInBounds]
    split
    · subst_vars
      split
      · exact hu.symm
      · rename_i h2
        rw [Array.getElem?_eq_none (by omega)]
    · rfl
  rw [this]
  exact setRow_self W b cs t fz h
theorem oth_set {W : World} {b j : Nat} {u : Value} : Oth 67 (some b) W (W.setCell ⟨b, j, none⟩ u) := (Lib.OthersKept.refl _ _ _).setCell ⟨b, j, none⟩ rfl _

set_option maxHeartbeats 4000000 in
theorem refuse_any (B b : Nat) (text : List UInt8) (s : Rs) (x : Bx) (code : Int) (at_ : Nat) (w : World) (h : Rt w B b text s x) (ha : at_ ≤ text.length) (hc : code ≠ 0) :
    Calls Tryd.prog 36 #[.pointer (some ⟨b, 0, none⟩), .int .i64 code, .int .i64 (at_ : Int)] w fun e w' => (∃ y, e = .returned y) ∧ Rt w' B b text (refuse s code at_) x ∧ Below B w w' ∧ Oth 67 (some b) w w' := by
  have hs := h.small
  have hbl := (Array.getElem?_eq_some_iff.1 h.box).1
  have HP : Hid (∀ W, Calls Tryd.prog 55 #[str text, .int .i64 (at_ : Int)] W fun e w' => e = .returned (.agg #[.int .i64 ((spotN (text.take at_)).1 : Int), .int .i64 ((spotN (text.take at_)).2 : Int)]) ∧ Below W.heap.size W w') := fun W => place_any ⟨text.toArray⟩ at_ W (by show text.toArray.size ≤ _; simp; omega) (by show at_ ≤ text.toArray.size; simpa using ha)
  cases hfa : s.fault with
  | none =>
    have hr : refuse s code at_ = { s with fault := some (code, at_) } := by simp [refuse, hfa]
    have q := fun j => cell_row h.box j
    have HR := hid h
    have HQ := hid hr
    have FIN : Hid (∀ W, Below w.heap.size w W → (∃ z12 z13 z14, W.cell? ⟨b, 12, none⟩ = some (.int .i64 z12) ∧ W.cell? ⟨b, 13, none⟩ = some (.int .i64 z13) ∧ W.cell? ⟨b, 14, none⟩ = some (.int .i64 z14)) ∧ (∀ j, W.frozen? ⟨b, j, none⟩ = false) ∧ b < W.heap.size ∧ (Rt (((W.setCell ⟨b, 12, none⟩ (.int .i64 code)).setCell ⟨b, 13, none⟩ (.int .i64 ((spotN (text.take at_)).1 : Int))).setCell ⟨b, 14, none⟩ (.int .i64 ((spotN (text.take at_)).2 : Int))) B b text (refuse s code at_) x ∧ Below B w (((W.setCell ⟨b, 12, none⟩ (.int .i64 code)).setCell ⟨b, 13, none⟩ (.int .i64 ((spotN (text.take at_)).1 : Int))).setCell ⟨b, 14, none⟩ (.int .i64 ((spotN (text.take at_)).2 : Int))) ∧ Oth 67 (some b) w (((W.setCell ⟨b, 12, none⟩ (.int .i64 code)).setCell ⟨b, 13, none⟩ (.int .i64 ((spotN (text.take at_)).1 : Int))).setCell ⟨b, 14, none⟩ (.int .i64 ((spotN (text.take at_)).2 : Int))))) := fun W hW => by
      have hb2 := (hW.block b hbl).trans h.box
      have o : Oth 67 (some b) w (((W.setCell ⟨b, 12, none⟩ (.int .i64 code)).setCell ⟨b, 13, none⟩ (.int .i64 ((spotN (text.take at_)).1 : Int))).setCell ⟨b, 14, none⟩ (.int .i64 ((spotN (text.take at_)).2 : Int))) := (Oth.of_below hW).trans ((oth_set.trans oth_set).trans oth_set)
      refine ⟨⟨_, _, _, cell_row hb2 12, cell_row hb2 13, cell_row hb2 14⟩, fun j => unfrozen_row hb2 j, (Array.getElem?_eq_some_iff.1 hb2).1, ?_, ((((hW.mono (by have := h.base; omega)).setCell (p := ⟨b, 12, none⟩) h.base _).setCell (p := ⟨b, 13, none⟩) h.base _).setCell (p := ⟨b, 14, none⟩) h.base _), o⟩
      rw [hr]
      refine h.write (lf := x.lf) o ?_ rfl (h.beside o).2.1 (by simp; exact hW.size) h.inl rfl rfl rfl h.inla h.fewO (fun p hp => by simp only [Option.some.injEq] at hp; rw [← hp]; exact hc)
      rw [row_set (row_set (row_set hb2))]
      rfl
    have f0 : fcode s.fault = 0 := by rw [hfa]; rfl
    have q12 : w.cell? ⟨b, 12, none⟩ = some (.int .i64 0) := by rw [q]; simp [boxV, f0]
    have q0 : w.cell? ⟨b, 0, none⟩ = some (str text) := by rw [q]; rfl
    clear hfa hr h q f0 hs hc
    go_enter Tryd.func36, Tryd.ntmps36
    go_wp2_with (go_at_call 55; refine (HP.out _).mono ?_; rintro e w1 ⟨rfl, b1⟩; obtain ⟨⟨z12, z13, z14, q1, q2, q3⟩, f1, l1, fin⟩ := FIN.out w1 b1; have FN := hid fin; clear fin b1)
    first | go_end0 | refine bodyPost_end (results_none rfl _ _ _) rfl ?_
    exact ⟨⟨_, rfl⟩, FN.out⟩
  | some p =>
    have hr : refuse s code at_ = s := by simp [refuse, hfa]
    have q := fun j => cell_row h.box j
    have q12 : w.cell? ⟨b, 12, none⟩ = some (.int .i64 p.1) := by rw [q]; simp [boxV, hfa, fcode]
    have hne : decide (p.1 = 0) = false := by simpa using h.flt p hfa
    have hne2 : (p.1 == 0) = false := by simpa using h.flt p hfa
    have HR : Hid (Rt w B b text (refuse s code at_) x) := by rw [hr]; exact h
    clear hr h q hfa HP hc hs
    go_enter Tryd.func36, Tryd.ntmps36
    go_wp2
    first | go_end0 | refine bodyPost_end (results_none rfl _ _ _) rfl ?_
    exact ⟨⟨_, rfl⟩, HR.out, Below.refl _ _, Lib.OthersKept.refl _ _ _⟩

set_option maxHeartbeats 4000000 in
theorem take_some (B b : Nat) (text : List UInt8) (s : Rs) (x : Bx) (y : Wd) (t : List Wd) (w : World) (h : Rt w B b text s x) (hl : s.left = y :: t) :
    Calls Tryd.prog 45 #[.pointer (some ⟨b, 0, none⟩)] w fun e w' => e = .returned (.agg #[str y.1, .int .i64 (y.2 : Int)]) ∧ (∃ lf, Rt w' B b text { s with last := y, left := t } { x with lf := lf }) ∧ Below B w w' ∧ Oth 67 (some b) w w' := by
  obtain ⟨sa, c, hv, hcl, hrow⟩ := h.left
  obtain ⟨g, o, cur, fz, rfl, hgM, hg, hx⟩ := hrow (by rw [hl]; simp)
  obtain ⟨hy1, hy2⟩ := hx 0 y (by rw [hl]; rfl)
  rw [hl] at hv hcl
  simp only [List.length_cons] at hv hcl
  obtain ⟨q0, q1, q2, q3, q4, q5, q6, q7, q8, q9, q10, q11, q12, q13, q14, hbl, hfz⟩ := box_cells h.box
  obtain ⟨w0, hw0⟩ : ∃ w0, w0 = w.alloc (.cells #[.string ⟨#[]⟩, .int .i64 0] 64) := ⟨_, rfl⟩
  have BW : Below w.heap.size w w0 := by rw [hw0]; exact (Below.refl _ _).alloc (Nat.le_refl _) _
  have hgl := (Array.getElem?_eq_some_iff.1 hg).1
  have p2 : w0.drew.cell? ⟨b, 2, none⟩ = some (.slice (some ⟨g, o, none⟩) (t.length + 1) c) := by rw [← hv]; exact (BW.cell (p := ⟨b, 2, none⟩) hbl).trans q2
  have p3 : w0.drew.cell? ⟨b, 3, none⟩ = some (str s.last.1) := (BW.cell (p := ⟨b, 3, none⟩) hbl).trans q3
  have p4 : w0.drew.cell? ⟨b, 4, none⟩ = some (.int .i64 (s.last.2 : Int)) := (BW.cell (p := ⟨b, 4, none⟩) hbl).trans q4
  have y1 : w0.drew.cell? ⟨g, o, none⟩ = some (str y.1) := (BW.cell (p := ⟨g, o, none⟩) hgl).trans ((cell_row hg o).trans (by simpa using hy1))
  have y2 : w0.drew.cell? ⟨g, o + 1, none⟩ = some (.int .i64 (y.2 : Int)) := (BW.cell (p := ⟨g, o + 1, none⟩) hgl).trans ((cell_row hg (o + 1)).trans (by simpa using hy2))
  have fb : ∀ j, w0.drew.frozen? ⟨b, j, none⟩ = false := fun j => unfrozen_row ((BW.block b hbl).trans h.box) j
  have l1 : b < w0.drew.heap.size := Nat.lt_of_lt_of_le hbl BW.size
  have fb2 := fb 2
  have fb3 := fb 3
  have fb4 := fb 4
  have gb2 : w0.frozen? ⟨b, 2, none⟩ = false := fb2
  have gb3 : w0.frozen? ⟨b, 3, none⟩ = false := fb3
  have gb4 : w0.frozen? ⟨b, 4, none⟩ = false := fb4
  have p3' : w0.cell? ⟨b, 3, none⟩ = some (str s.last.1) := p3
  have p4' : w0.cell? ⟨b, 4, none⟩ = some (.int .i64 (s.last.2 : Int)) := p4
  have p2' : w0.cell? ⟨b, 2, none⟩ = some (.slice (some ⟨g, o, none⟩) (t.length + 1) c) := p2
  have hgb : g ≠ b := fun e => by
    rw [e, h.box] at hg
    simp only [Option.some.injEq, Obj.cells.injEq] at hg
    exact absurd hg.2.1 (by decide)
  have mixed := Tryd.lays161.mixed
  have hz : ((t.length : Int) + 1 == 0) = false := by simp; omega
  have hz2 : decide ((t.length : Int) + 1 = 0) = false := by simp; omega
  have HW0 := hid hw0
  have HH := hid h
  clear h hrow hx hg hy1 hy2 q0 q1 q2 q3 q4 q5 q6 q7 q8 q9 q10 q11 q12 q13 q14 hfz hw0
  go_enter Tryd.func45, Tryd.ntmps45
  go_wp2_with (rw [← HW0.out])
  go_region
  obtain ⟨v, hv2⟩ : ∃ v, v = (((w0.setCell ⟨b, 3, none⟩ (Value.string ⟨y.1.toArray⟩)).setCell ⟨b, 4, none⟩ (Value.int .i64 (y.2 : Int))).setCell ⟨b, 2, none⟩ (Value.slice (if c = 1 then some ⟨g, o, none⟩ else some ⟨g, o + 2, none⟩) t.length (c - 1))).drew := ⟨_, rfl⟩
  rw [← hv2]
  have BX0 := (BW.block b hbl).trans HH.out.box
  have RB : v.heap[b]? = some (.cells (boxV text { s with last := y, left := t } { x with lf := Value.slice (if c = 1 then some ⟨g, o, none⟩ else some ⟨g, o + 2, none⟩) t.length (c - 1) }) 67 (0, 0)) := by
    rw [hv2]
    show (((w0.setCell ⟨b, 3, none⟩ _).setCell ⟨b, 4, none⟩ _).setCell ⟨b, 2, none⟩ _).heap[b]? = _
    rw [row_set (row_set (row_set BX0))]
    rfl
  have OV : Oth 67 (some b) w v := by rw [hv2]; exact (Oth.of_below BW).trans (((oth_set.trans oth_set).trans oth_set).drew)
  have BV : Below B w v := by
    rw [hv2]
    exact ((((BW.mono (by have := HH.out.base; omega)).setCell (p := ⟨b, 3, none⟩) HH.out.base _).setCell (p := ⟨b, 4, none⟩) HH.out.base _).setCell (p := ⟨b, 2, none⟩) HH.out.base _).drew
  have hwn : w.heap.size ≠ b := by omega
  have RN : v.heap[w.heap.size]? = some (.cells #[.string ⟨#[]⟩, .int .i64 0] 64 (0, 0)) := by
    rw [hv2]
    show (((w0.setCell ⟨b, 3, none⟩ _).setCell ⟨b, 4, none⟩ _).setCell ⟨b, 2, none⟩ _).heap[w.heap.size]? = _
    rw [Below.heap_setCell _ _ _ _ hwn, Below.heap_setCell _ _ _ _ hwn, Below.heap_setCell _ _ _ _ hwn, HW0.out]
    exact heap_alloc_new w _
  have FIN : Hid (∀ W, W = (v.setCell ⟨w.heap.size, 0, none⟩ (str y.1)).setCell ⟨w.heap.size, 1, none⟩ (.int .i64 (y.2 : Int)) → W.cell? ⟨w.heap.size, 0, none⟩ = some (str y.1) ∧ W.cell? ⟨w.heap.size, 1, none⟩ = some (.int .i64 (y.2 : Int)) ∧ (∃ lf, Rt W B b text { s with last := y, left := t } { x with lf := lf }) ∧ Below B w W ∧ Oth 67 (some b) w W) := fun W hW => by
    have hrw : W.heap[w.heap.size]? = some (.cells #[str y.1, .int .i64 (y.2 : Int)] 64 (0, 0)) := by rw [hW, row_set (row_set RN)]; rfl
    have hsame : ∀ k, k < w.heap.size → W.heap[k]? = v.heap[k]? := fun k hk => by rw [hW, Below.heap_setCell _ _ _ _ (by show k ≠ w.heap.size; omega), Below.heap_setCell _ _ _ _ (by show k ≠ w.heap.size; omega)]
    have oW : Oth 67 (some b) w W := fun k ob hk h1 h2 => (hsame k (Array.getElem?_eq_some_iff.1 hk).1).trans (OV k ob hk h1 h2)
    refine ⟨cell_row hrw 0, cell_row hrw 1, ⟨_, HH.out.write oW ((hsame b hbl).trans RB) rfl ?_ ?_ (fun z hz => HH.out.inl z (by rw [hl]; simp [hz])) rfl rfl rfl (HH.out.inl y (by rw [hl]; simp)) HH.out.fewO HH.out.flt⟩, ?_, oW⟩
    · refine ⟨_, c - 1, rfl, by show t.length ≤ c - 1; omega, fun h0 => ?_⟩
      have ht : 0 < t.length := List.length_pos_iff.2 h0
      obtain ⟨sa', c', hv', _, hrow'⟩ := HH.out.left
      obtain ⟨g', o', cur, fz, e', hgM', hg, hx⟩ := hrow' (by rw [hl]; simp)
      rw [hv'] at hv
      simp only [Value.slice.injEq] at hv
      obtain ⟨hsa, _, _⟩ := hv
      rw [e'] at hsa
      obtain ⟨rfl, rfl⟩ : g' = g ∧ o' = o := by simpa using hsa
      refine ⟨g', o' + 2, cur, fz, by rw [if_neg (by omega)], hgM', oW g' _ hg (fun e => hgb (Option.some.inj e)) (fun c2 f2 e => by simp only [Obj.cells.injEq] at e; exact absurd e.2.1 (by decide)), fun j z hz => ?_⟩
      have := hx (j + 1) z (by rw [hl]; simpa using hz)
      rw [show o' + (j + 1) * 2 = o' + 2 + j * 2 by omega, show o' + 2 + j * 2 + 1 = o' + 2 + j * 2 + 1 from rfl] at this
      exact this
    · rw [hW]
      have := BV.size
      simpa using this
    · rw [hW]
      exact (BV.setCell (p := ⟨w.heap.size, 0, none⟩) (by have := HH.out.base; show B ≤ w.heap.size; omega) _).setCell (p := ⟨w.heap.size, 1, none⟩) (by have := HH.out.base; show B ≤ w.heap.size; omega) _
  have r3 : v.cell? ⟨b, 3, none⟩ = some (str y.1) := cell_row RB 3
  have r4 : v.cell? ⟨b, 4, none⟩ = some (.int .i64 (y.2 : Int)) := cell_row RB 4
  have n0 := cell_row RN 0
  have n1 := cell_row RN 1
  have m0 := unfrozen_row RN 0
  have m1 := unfrozen_row RN 1
  have lb := (Array.getElem?_eq_some_iff.1 RB).1
  have ln := (Array.getElem?_eq_some_iff.1 RN).1
  clear RN RB BV OV BX0 hv2 p2 p3 p4 y1 y2 fb fb2 fb3 fb4 gb2 gb3 gb4 p2' p3' p4' l1 BW HW0
  go_wp2
  all_goals
    obtain ⟨f1, f2, f3⟩ := FIN.out _ rfl
    exact bodyPost_ret (v := .agg #[str y.1, .int .i64 (y.2 : Int)]) (by simp [results, Tryd.results45, go_sem, f1, f2]) rfl ⟨rfl, f3⟩

end Go.Proofs.YtfmmmhcpdinhgabDoor
/-
  The reader's take, with nothing left.
-/
namespace Go.Proofs.YtfmmmhcpdinhgabDoor
open Go.RowKit Go.Deep PureNet PureRd
set_option maxRecDepth 100000

set_option maxHeartbeats 400000 in
theorem take_none (B b : Nat) (text : List UInt8) (s : Rs) (x : Bx) (w : World) (h : Rt w B b text s x) (hl : s.left = []) :
    Calls Tryd.prog 45 #[.pointer (some ⟨b, 0, none⟩)] w fun e w' => e = .returned (.agg #[str [], .int .i64 0]) ∧ Rt w' B b text (refuse s 140 (s.last.2 + s.last.1.length)) x ∧ Below B w w' ∧ Oth 67 (some b) w w' := by
  obtain ⟨sa, c, hv, hcl, hrow⟩ := h.left
  rw [hl] at hv
  obtain ⟨w0, hw0⟩ : ∃ w0, w0 = w.alloc (.cells #[.string ⟨#[]⟩, .int .i64 0] 64) := ⟨_, rfl⟩
  have BW : Below w.heap.size w w0 := by rw [hw0]; exact (Below.refl _ _).alloc (Nat.le_refl _) _
  have h0 := h.on BW
  have hla := h.inla
  have hsm := h.small
  have RFU : Hid (∀ W, Rt W B b text s x → Calls Tryd.prog 36 #[.pointer (some ⟨b, 0, none⟩), .int .i64 140, .int .i64 ((s.last.2 : Int) + (s.last.1.length : Int))] W fun e w' => (∃ y, e = .returned y) ∧ Rt w' B b text (refuse s 140 (s.last.2 + s.last.1.length)) x ∧ Below B W w' ∧ Oth 67 (some b) W w') := fun W hW => by
    have := refuse_any B b text s x 140 (s.last.2 + s.last.1.length) W hW hla (by decide)
    rw [Int.natCast_add] at this
    exact this
  obtain ⟨q0, q1, q2, q3, q4, q5, q6, q7, q8, q9, q10, q11, q12, q13, q14, hbl, hfz⟩ := box_cells h0.box
  rw [hv] at q2
  have RN : w0.heap[w.heap.size]? = some (.cells #[.string ⟨#[]⟩, .int .i64 0] 64 (0, 0)) := by rw [hw0]; exact heap_alloc_new w _
  have KS : Hid (∀ W, Below w0.heap.size w0 W → W.cell? ⟨b, 3, none⟩ = some (str s.last.1) ∧ W.cell? ⟨b, 4, none⟩ = some (.int .i64 (s.last.2 : Int))) := fun W hW => ⟨(hW.cell (p := ⟨b, 3, none⟩) hbl).trans q3, (hW.cell (p := ⟨b, 4, none⟩) hbl).trans q4⟩
  have mixed := Tryd.lays161.mixed
  have HB := hid h.base
  have HW0 := hid hw0
  have H0 := hid h0
  have HBW := hid BW
  have HRN := hid RN
  have hbw : b < w.heap.size := (Array.getElem?_eq_some_iff.1 h.box).1
  have LS : Hid (s.last.2 + s.last.1.length ≤ 1048576) := by have : s.last.2 + s.last.1.length ≤ text.length := hla; show _ ≤ _; omega
  have ls1 : s.last.1.length ≤ 1048576 := by have := LS.out; omega
  have ls2 : s.last.2 ≤ 1048576 := by have := LS.out; omega
  have c5 : IntKind.i64.wrap ((s.last.2 : Int) + (s.last.1.length : Int)) = (s.last.2 : Int) + (s.last.1.length : Int) := (IntWalk.i64_left _).trans <| IntWalk.wrap64_in _ ⟨by omega, by omega⟩
  clear h h0 hrow hcl hla hsm q0 q1 q3 q4 q5 q6 q7 q8 q9 q10 q11 q12 q13 q14 hfz hw0 BW RN
  go_enter Tryd.func45, Tryd.ntmps45
  go_wp2_with (rw [← HW0.out])
  refine wp_region_noPanic ?_
  refine wp_region_held_drew (S := fun W => W.cell? ⟨b, 3, none⟩ = some (str s.last.1) ∧ W.cell? ⟨b, 4, none⟩ = some (.int .i64 (s.last.2 : Int))) (by kernel_rfl) (KS.out _ (Below.refl _ _).drew) (fun hHeld => ?_)
  refine wpAnyH_take (i := 0) (v := ?_) (by simp only [List.getElem?_toArray, List.getElem?_cons_zero]; rfl) (by kernel_rfl) (by kernel_rfl) (by kernel_rfl) (fun _ _ _ h => h) (Or.inl ⟨by rfl, ?_⟩) (by assumption) ?_
  rotate_left 1
  · intro w hSw; (try dsimp only at hSw); go_simp; (try with_reducible rfl)
  try simp only [Act.put, List.setIfInBounds_toArray, List.set_cons_zero, List.set_cons_succ]
  refine wpAnyH_take (i := 1) (v := ?_) (by simp only [List.getElem?_toArray, List.getElem?_cons_succ, List.getElem?_cons_zero]; rfl) (by kernel_rfl) (by kernel_rfl) (by kernel_rfl) (fun _ _ _ h => h) (Or.inl ⟨by rfl, ?_⟩) (by assumption) ?_
  rotate_left 1
  · intro w hSw; (try dsimp only at hSw); go_simp; (try with_reducible rfl)
  try simp only [Act.put, List.setIfInBounds_toArray, List.set_cons_zero, List.set_cons_succ]
  refine wpAnyH_take (i := 2) (v := ?_) (by simp only [List.getElem?_toArray, List.getElem?_cons_succ, List.getElem?_cons_zero]; rfl) (by kernel_rfl) (by kernel_rfl) (by kernel_rfl) (fun _ _ _ h => h) (Or.inl ⟨by rfl, ?_⟩) (by assumption) ?_
  rotate_left 1
  · intro w hSw; (try dsimp only at hSw); go_simp; (try with_reducible rfl)
  try simp only [Act.put, List.setIfInBounds_toArray, List.set_cons_zero, List.set_cons_succ]
  refine wpAnyH_take (i := 3) (v := ?_) (by simp only [List.getElem?_toArray, List.getElem?_cons_succ, List.getElem?_cons_zero]; rfl) (by kernel_rfl) (by kernel_rfl) (by kernel_rfl) (fun _ _ _ h => h) (Or.inl ⟨by rfl, ?_⟩) (by assumption) ?_
  rotate_left 1
  · intro w hSw; (try dsimp only at hSw); go_simp; (try with_reducible rfl)
  try simp only [Act.put, List.setIfInBounds_toArray, List.set_cons_zero, List.set_cons_succ]
  refine wpAnyH_take (i := 4) (v := ?_) (by simp only [List.getElem?_toArray, List.getElem?_cons_succ, List.getElem?_cons_zero]; rfl) (by kernel_rfl) (by kernel_rfl) (by kernel_rfl) (fun _ _ _ h => h) (Or.inl ⟨by rfl, ?_⟩) (by assumption) ?_
  rotate_left 1
  · intro w hSw; (try dsimp only at hSw); go_simp; (try with_reducible rfl)
  try simp only [Act.put, List.setIfInBounds_toArray, List.set_cons_zero, List.set_cons_succ]
  refine wpAnyH_take (i := 5) (v := ?_) (by simp only [List.getElem?_toArray, List.getElem?_cons_succ, List.getElem?_cons_zero]; rfl) (by kernel_rfl) (by kernel_rfl) (by kernel_rfl) (fun _ _ _ h => h) (Or.inl ⟨by rfl, ?_⟩) (by assumption) ?_
  rotate_left 1
  · intro w hSw; (try dsimp only at hSw); go_simp; (try with_reducible rfl)
  try simp only [Act.put, List.setIfInBounds_toArray, List.set_cons_zero, List.set_cons_succ]
  refine wpAnyH_take (i := 6) (v := ?_) (by simp only [List.getElem?_toArray, List.getElem?_cons_succ, List.getElem?_cons_zero]; rfl) (by kernel_rfl) (by kernel_rfl) (by kernel_rfl) (fun _ _ _ h => h) (Or.inl ⟨by rfl, ?_⟩) (by assumption) ?_
  rotate_left 1
  · intro w hSw; (try dsimp only at hSw); go_simp; (try with_reducible rfl)
  try simp only [Act.put, List.setIfInBounds_toArray, List.set_cons_zero, List.set_cons_succ]
  refine wpAnyH_take (i := 7) (v := ?_) (by simp only [List.getElem?_toArray, List.getElem?_cons_succ, List.getElem?_cons_zero]; rfl) (by kernel_rfl) (by kernel_rfl) (by kernel_rfl) (fun _ _ _ h => h) (Or.inl ⟨by rfl, ?_⟩) (by assumption) ?_
  rotate_left 1
  · intro w hSw; (try dsimp only at hSw); go_simp; (try with_reducible rfl)
  try simp only [Act.put, List.setIfInBounds_toArray, List.set_cons_zero, List.set_cons_succ]
  refine wpAnyH_take (i := 8) (v := ?_) (by simp only [List.getElem?_toArray, List.getElem?_cons_succ, List.getElem?_cons_zero]; rfl) (by kernel_rfl) (by kernel_rfl) (by kernel_rfl) (fun _ _ _ h => h) (Or.inl ⟨by rfl, ?_⟩) (by assumption) ?_
  rotate_left 1
  · intro w hSw; (try dsimp only at hSw); go_simp; (try with_reducible rfl)
  try simp only [Act.put, List.setIfInBounds_toArray, List.set_cons_zero, List.set_cons_succ]
  refine wpAnyH_take (i := 9) (v := ?_) (by simp only [List.getElem?_toArray, List.getElem?_cons_succ, List.getElem?_cons_zero]; rfl) (by kernel_rfl) (by kernel_rfl) (by kernel_rfl) (fun _ _ _ h => h) (Or.inl ⟨by rfl, ?_⟩) (by assumption) ?_
  rotate_left 1
  · intro w hSw; (try dsimp only at hSw); go_simp; (try with_reducible rfl)
  try simp only [Act.put, List.setIfInBounds_toArray, List.set_cons_zero, List.set_cons_succ]
  refine wpAnyH_take (i := 10) (v := ?_) (by simp only [List.getElem?_toArray, List.getElem?_cons_succ, List.getElem?_cons_zero]; rfl) (by kernel_rfl) (by kernel_rfl) (by kernel_rfl) (fun _ _ _ h => h) (Or.inl ⟨by rfl, ?_⟩) (by assumption) ?_
  rotate_left 1
  · intro w hSw; (try dsimp only at hSw); go_simp; (try with_reducible rfl)
  try simp only [Act.put, List.setIfInBounds_toArray, List.set_cons_zero, List.set_cons_succ]
  refine wpAnyH_take (i := 11) (v := ?_) (by simp only [List.getElem?_toArray, List.getElem?_cons_succ, List.getElem?_cons_zero]; rfl) (by kernel_rfl) (by kernel_rfl) (by kernel_rfl) (fun _ _ _ h => h) (Or.inl ⟨by rfl, ?_⟩) (by assumption) ?_
  rotate_left 1
  · intro w hSw; (try dsimp only at hSw); go_simp; (try with_reducible rfl)
  try simp only [Act.put, List.setIfInBounds_toArray, List.set_cons_zero, List.set_cons_succ]
  refine wpAnyH_take (i := 12) (v := ?_) (by simp only [List.getElem?_toArray, List.getElem?_cons_succ, List.getElem?_cons_zero]; rfl) (by kernel_rfl) (by kernel_rfl) (by kernel_rfl) (fun _ _ _ h => h) (Or.inl ⟨by rfl, ?_⟩) (by assumption) ?_
  rotate_left 1
  · intro w hSw; (try dsimp only at hSw); go_simp; (try with_reducible rfl)
  try simp only [Act.put, List.setIfInBounds_toArray, List.set_cons_zero, List.set_cons_succ]
  refine wpAnyH_ready (rs := [13]) (by kernel_rfl) (by simp) ?_
  refine AllReadyH.cons (by simp only [List.getElem?_toArray, List.getElem?_cons_succ, List.getElem?_cons_zero]; rfl) (fun K hK => ?_) AllReadyH.nil
  go_simp
  go_at_call 36
  refine (RFU.out _ (H0.out.on (Below.refl _ _).drew)).mono ?_
  rintro e w1 ⟨⟨yy, rfl⟩, k1, k2, k3⟩
  have K1 := hid k1
  have K2 : Hid (Below B w w1) := ((HBW.out.mono (by have := HB.out; omega)).drew).trans k2
  have K3 : Hid (Oth 67 (some b) w w1) := (Oth.of_below HBW.out.drew).trans k3
  have RN1 : Hid (w1.heap[w.heap.size]? = some (.cells #[.string ⟨#[]⟩, .int .i64 0] 64 (0, 0))) := k3 _ _ HRN.out (fun e => by have := Option.some.inj e; omega) (fun c2 f2 e => by simp only [Obj.cells.injEq] at e; exact absurd e.2.1 (by decide))
  have ks1 : w1.cell? ⟨b, 3, none⟩ = some (str s.last.1) ∧ w1.cell? ⟨b, 4, none⟩ = some (.int .i64 (s.last.2 : Int)) := by
    have c3 := cell_row k1.box 3
    have c4 := cell_row k1.box 4
    simp only [boxV, refuse_last] at c3 c4
    exact ⟨c3, c4⟩
  clear k1 k2 k3
  clear hHeld
  refine hK.out _ _ ks1 (fun hHeld => ?_)
  clear hK K
  try simp only [Act.put, List.setIfInBounds_toArray, List.set_cons_zero, List.set_cons_succ]
  refine wpAnyH_done (by kernel_rfl) ?_ _
  refine NoPanic.normal ?_
  clear hHeld ks1 KS
  have n0 := cell_row RN1.out 0
  have n1 := cell_row RN1.out 1
  have m0 := unfrozen_row RN1.out 0
  have m1 := unfrozen_row RN1.out 1
  have lnn := (Array.getElem?_eq_some_iff.1 RN1.out).1
  have FIN : Hid (∀ W, W = (w1.setCell ⟨w.heap.size, 0, none⟩ (.string ⟨#[]⟩)).setCell ⟨w.heap.size, 1, none⟩ (.int .i64 0) → W.cell? ⟨w.heap.size, 0, none⟩ = some (.string ⟨#[]⟩) ∧ W.cell? ⟨w.heap.size, 1, none⟩ = some (.int .i64 0) ∧ Rt W B b text (refuse s 140 (s.last.2 + s.last.1.length)) x ∧ Below B w W ∧ Oth 67 (some b) w W) := fun W hW => by
    have hrw : W.heap[w.heap.size]? = some (.cells #[.string ⟨#[]⟩, .int .i64 0] 64 (0, 0)) := by rw [hW, row_set (row_set RN1.out)]; rfl
    have hsame : W = w1 := by rw [hW, set_self (u := .string ⟨#[]⟩) RN1.out 0 rfl, set_self (u := .int .i64 0) RN1.out 1 rfl]
    rw [hsame] at hrw ⊢
    exact ⟨cell_row hrw 0, cell_row hrw 1, K1.out, K2.out, K3.out⟩
  go_wp2
  obtain ⟨f1, f2, f3⟩ := FIN.out _ rfl
  exact bodyPost_ret (v := .agg #[.string ⟨#[]⟩, .int .i64 0]) (by simp [results, Tryd.results45, go_sem, f1, f2]) rfl ⟨rfl, f3⟩

/-- take, whatever is left. -/
theorem take_any (B b : Nat) (text : List UInt8) (s : Rs) (x : Bx) (w : World) (h : Rt w B b text s x) :
    Calls Tryd.prog 45 #[.pointer (some ⟨b, 0, none⟩)] w fun e w' => e = .returned (.agg #[str (take s).1.1, .int .i64 ((take s).1.2 : Int)]) ∧ (∃ lf, Rt w' B b text (take s).2 { x with lf := lf }) ∧ Below B w w' ∧ Oth 67 (some b) w w' := by
  cases hl : s.left with
  | nil =>
    refine (take_none B b text s x w h hl).mono fun e w' ⟨h1, h2, h3⟩ => ?_
    have e1 : take s = (([], 0), refuse s 140 (s.last.2 + s.last.1.length)) := by unfold take; rw [hl]
    rw [e1]
    exact ⟨h1, ⟨x.lf, h2⟩, h3⟩
  | cons y t =>
    refine (take_some B b text s x y t w h hl).mono fun e w' ⟨h1, h2, h3⟩ => ?_
    have e1 : take s = (y, { s with last := y, left := t }) := by unfold take; rw [hl]
    rw [e1]
    exact ⟨h1, h2, h3⟩
theorem take_in {N : Nat} {s : Rs} (h1 : ∀ y ∈ s.left, InT N y) : InT N (take s).1 := by
  unfold take
  split
  · simp [InT]
  · rename_i y t e
    exact h1 y (by rw [e]; simp)
end Go.Proofs.YtfmmmhcpdinhgabDoor
/-
  The reader's name, op; what words mean.
-/
namespace Go.Proofs.YtfmmmhcpdinhgabDoor
open Go.RowKit Go.Deep PureNet PureRd
set_option maxRecDepth 100000

set_option maxHeartbeats 2000000 in
theorem name_any (B b : Nat) (text : List UInt8) (s : Rs) (x : Bx) (w : World) (h : Rt w B b text s x) :
    Calls Tryd.prog 26 #[.pointer (some ⟨b, 0, none⟩)] w fun e w' => e = .returned (.agg #[str (take s).1.1, .int .i64 ((take s).1.2 : Int)]) ∧ (∃ lf, Rt w' B b text (name nameL s).2 { x with lf := lf }) ∧ Below B w w' ∧ Oth 67 (some b) w w' := by
  obtain ⟨w0, hw0⟩ : ∃ w0, w0 = w.alloc (.cells #[.string ⟨#[]⟩, .int .i64 0] 64) := ⟨_, rfl⟩
  have BW : Hid (Below w.heap.size w w0) := by rw [hw0]; exact (Below.refl _ _).alloc (Nat.le_refl _) _
  have RN : Hid (w0.heap[w.heap.size]? = some (.cells #[.string ⟨#[]⟩, .int .i64 0] 64 (0, 0))) := by rw [hw0]; exact heap_alloc_new w _
  have TK := hid (take_any B b text s x w0 (h.on BW.out))
  have hbw : b < w.heap.size := (Array.getElem?_eq_some_iff.1 h.box).1
  have hB := h.base
  have hmx := h.mxl
  have HIN : Hid (InT text.length (take s).1) := take_in h.inl
  have hsm := h.small
  obtain ⟨ty, hty⟩ : ∃ ty, ty = (take s).1 := ⟨_, rfl⟩
  obtain ⟨s1, hs1⟩ : ∃ s1, s1 = (take s).2 := ⟨_, rfl⟩
  have NM : Hid ((name nameL s).2 = if nameL ty.1 then s1 else refuse s1 140 ty.2) := by
    show _ = _
    rw [hty, hs1]
    rfl
  rw [← hty, ← hs1] at TK
  rw [← hty] at HIN ⊢
  have hti : ty.2 + ty.1.length ≤ text.length := HIN.out
  have ISN : Hid (∀ W, Calls Tryd.prog 46 #[str ty.1] W fun e w' => e = .returned (.bool (nameL ty.1)) ∧ w' = W) := fun W => isName_any ⟨ty.1.toArray⟩ W (by show ty.1.toArray.size ≤ _; simp; omega)
  have RF : Hid (∀ W lf, Rt W B b text s1 { x with lf := lf } → Calls Tryd.prog 36 #[.pointer (some ⟨b, 0, none⟩), .int .i64 140, .int .i64 (ty.2 : Int)] W fun e w' => (∃ y, e = .returned y) ∧ Rt w' B b text (refuse s1 140 ty.2) { x with lf := lf } ∧ Below B W w' ∧ Oth 67 (some b) W w') := fun W lf hW => refuse_any B b text s1 _ 140 ty.2 W hW (by omega) (by decide)
  -- what is at the end
  have FIN : Hid (∀ (W3 W : World) (s3 : Rs) (lf : Value), Rt W3 B b text s3 { x with lf := lf } → Below B w W3 → Oth 67 (some b) w W3 → W3.heap[w.heap.size]? = some (.cells #[.string ⟨#[]⟩, .int .i64 0] 64 (0, 0)) → W = (W3.setCell ⟨w.heap.size, 0, none⟩ (str ty.1)).setCell ⟨w.heap.size, 1, none⟩ (.int .i64 (ty.2 : Int)) →
      W.cell? ⟨w.heap.size, 0, none⟩ = some (str ty.1) ∧ W.cell? ⟨w.heap.size, 1, none⟩ = some (.int .i64 (ty.2 : Int)) ∧ (∃ lf, Rt W B b text s3 { x with lf := lf }) ∧ Below B w W ∧ Oth 67 (some b) w W) := fun W3 W s3 lf hR hb ho hn hW => by
    have hrw : W.heap[w.heap.size]? = some (.cells #[str ty.1, .int .i64 (ty.2 : Int)] 64 (0, 0)) := by rw [hW, row_set (row_set hn)]; rfl
    have hsame : ∀ k, k ≠ w.heap.size → W.heap[k]? = W3.heap[k]? := fun k hk => by rw [hW, Below.heap_setCell _ _ _ _ hk, Below.heap_setCell _ _ _ _ hk]
    have hsz : W3.heap.size = W.heap.size := by rw [hW]; simp
    refine ⟨cell_row hrw 0, cell_row hrw 1, ⟨lf, hR.aside (k := w.heap.size) (by omega) (fun j o hj hne => (hsame j hne).trans hj) ⟨_, _, hn⟩ hmx⟩, ?_, fun k ob hk h1 h2 => (hsame k (by have := (Array.getElem?_eq_some_iff.1 hk).1; omega)).trans (ho k ob hk h1 h2)⟩
    rw [hW]
    exact (hb.setCell (p := ⟨w.heap.size, 0, none⟩) (by show B ≤ w.heap.size; omega) _).setCell (p := ⟨w.heap.size, 1, none⟩) (by show B ≤ w.heap.size; omega) _
  -- behind take
  have MID : Hid (∀ w1 lf, Rt w1 B b text s1 { x with lf := lf } → Below B w0 w1 → Oth 67 (some b) w0 w1 → ∀ w2, w2 = w1.alloc (.cells #[str ty.1, .int .i64 (ty.2 : Int)] 64) →
      Rt w2 B b text s1 { x with lf := lf } ∧ Below B w w2 ∧ Oth 67 (some b) w w2 ∧ w2.heap[w.heap.size]? = some (.cells #[.string ⟨#[]⟩, .int .i64 0] 64 (0, 0)) ∧ w2.heap[w1.heap.size]? = some (.cells #[str ty.1, .int .i64 (ty.2 : Int)] 64 (0, 0)) ∧ w1.heap.size ≠ b ∧ w1.heap.size ≠ w.heap.size) := fun w1 lf hR hb ho w2 h2 => by
    have b12 : Below w1.heap.size w1 w2 := by rw [h2]; exact (Below.refl _ _).alloc (Nat.le_refl _) _
    have hn1 := oth74 ho RN.out (by omega)
    have hl1 := (Array.getElem?_eq_some_iff.1 hn1).1
    have hs := hb.size
    have hs0 := BW.out.size
    refine ⟨hR.on b12, ((BW.out.mono (by omega)).trans hb).trans (b12.mono (by omega)), ((Oth.of_below BW.out).trans ho).trans (Oth.of_below b12), (b12.block _ hl1).trans hn1, by rw [h2]; exact heap_alloc_new w1 _, by omega, by omega⟩
  have HW0 := hid hw0
  clear h hw0 hty hs1 hsm hti HIN
  cases hnm : nameL ty.1
  · rw [hnm] at ISN NM
    simp only [Bool.false_eq_true, if_false] at NM
    go_enter Tryd.func26, Tryd.ntmps26
    go_wp2_with (first
      | (rw [← HW0.out]; clear HW0)
      | (have q := HW2; clear q; rw [← HW2.out]; clear HW2)
      | (have q := M1; clear q; go_at_call 36; refine (RF.out w2 lf M1.out).mono ?_; rintro e w3 ⟨⟨yy, rfl⟩, r3, b3, o3⟩; have R3 := hid r3; have B3 : Hid (Below B w w3) := M2.out.trans b3; have O3 : Hid (Oth 67 (some b) w w3) := M3.out.trans o3; have N3 := hid (oth74 o3 M4.out (by omega)); have D3 := oth74 o3 M5.out m6; have c0 := cell_row D3 0; have c1 := cell_row D3 1; have l5 := (Array.getElem?_eq_some_iff.1 D3).1; have n0 := cell_row N3.out 0; have n1 := cell_row N3.out 1; have f0 := unfrozen_row N3.out 0; have f1 := unfrozen_row N3.out 1; have l4 := (Array.getElem?_eq_some_iff.1 N3.out).1; clear r3 b3 o3 D3)
      | (go_at_call 45; refine TK.out.mono ?_; rintro e w1 ⟨rfl, ⟨lf, r1⟩, b1, o1⟩; obtain ⟨w2, hw2⟩ : ∃ w2, w2 = w1.alloc (.cells #[str ty.1, .int .i64 (ty.2 : Int)] 64) := ⟨_, rfl⟩; obtain ⟨m1, m2, m3, m4, m5, m6, m7⟩ := MID.out w1 lf r1 b1 o1 w2 hw2; have HW2 := hid hw2; have M1 := hid m1; have M2 := hid m2; have M3 := hid m3; have M4 := hid m4; have M5 := hid m5; have c0 := cell_row m5 0; have c1 := cell_row m5 1; have l5 := (Array.getElem?_eq_some_iff.1 m5).1; have n0 := cell_row m4 0; have n1 := cell_row m4 1; have f0 := unfrozen_row m4 0; have f1 := unfrozen_row m4 1; have l4 := (Array.getElem?_eq_some_iff.1 m4).1; clear hw2 m1 m2 m3 m4 m5 r1 b1 o1)
      | (go_at_call 46; refine (ISN.out _).mono ?_; rintro e w9 ⟨rfl, h9⟩; have h9 := h9.symm; subst h9))
    obtain ⟨g1, g2, g3⟩ := FIN.out w3 _ _ lf R3.out B3.out O3.out N3.out rfl
    refine bodyPost_ret (v := .agg #[str ty.1, .int .i64 (ty.2 : Int)]) (by simp [results, Tryd.results26, go_sem, g1, g2]) rfl ⟨rfl, ?_⟩
    rw [NM.out]
    exact g3
  · rw [hnm] at ISN NM
    simp only [if_true] at NM
    go_enter Tryd.func26, Tryd.ntmps26
    go_wp2_with (first
      | (rw [← HW0.out]; clear HW0)
      | (have q := HW2; clear q; rw [← HW2.out]; clear HW2)
      | (go_at_call 45; refine TK.out.mono ?_; rintro e w1 ⟨rfl, ⟨lf, r1⟩, b1, o1⟩; obtain ⟨w2, hw2⟩ : ∃ w2, w2 = w1.alloc (.cells #[str ty.1, .int .i64 (ty.2 : Int)] 64) := ⟨_, rfl⟩; obtain ⟨m1, m2, m3, m4, m5, m6, m7⟩ := MID.out w1 lf r1 b1 o1 w2 hw2; have HW2 := hid hw2; have M1 := hid m1; have M2 := hid m2; have M3 := hid m3; have M4 := hid m4; have M5 := hid m5; have c0 := cell_row m5 0; have c1 := cell_row m5 1; have l5 := (Array.getElem?_eq_some_iff.1 m5).1; have n0 := cell_row m4 0; have n1 := cell_row m4 1; have f0 := unfrozen_row m4 0; have f1 := unfrozen_row m4 1; have l4 := (Array.getElem?_eq_some_iff.1 m4).1; clear hw2 m1 m2 m3 m4 m5 r1 b1 o1)
      | (go_at_call 46; refine (ISN.out _).mono ?_; rintro e w9 ⟨rfl, h9⟩; have h9 := h9.symm; subst h9))
    obtain ⟨g1, g2, g3⟩ := FIN.out w2 _ _ lf M1.out M2.out M3.out M4.out rfl
    refine bodyPost_ret (v := .agg #[str ty.1, .int .i64 (ty.2 : Int)]) (by simp [results, Tryd.results26, go_sem, g1, g2]) rfl ⟨rfl, ?_⟩
    rw [NM.out]
    exact g3
end Go.Proofs.YtfmmmhcpdinhgabDoor
