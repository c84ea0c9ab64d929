import Derived.BigQuiet
import Derived.Test.YtcpncfngadablaaGreatDoorZ07
/-
  The document's disk in memory.
-/
namespace Go.Proofs.YtcpncfngadablaaGreatDoor
open Go.RowKit Go.Deep ShfKit
set_option maxRecDepth 100000
/-- a file of the document's disk: its name, what it holds, its list of blocks and each block. -/
structure RFile where
  name : List UInt8
  file : FileA
  sv : Value
  vs : List Value
def RFile.cells (e : RFile) : List Value := [encStr e.name, .bool e.file.shut, e.sv]
def RFile.r31 (e : RFile) : Rw := (e.sv, e.file.blocks.length, e.vs)
def RFile.r5 (B : Nat) (e : RFile) : List Rw := (e.vs.zip e.file.blocks).map fun x => (x.1, B, Lib.byteCells x.2)
def RFile.pub (e : RFile) : List UInt8 × FileA := (e.name, e.file)
def TrA.cells (t : TrA) : List Value := [.int .i64 t.at_, .int .i64 t.kind, .int .i64 t.bytes]
structure RefD where
  p : Nat
  fv : Value
  tv : Value
  fs : List RFile
  trs : List TrA
  B : Nat
  Bs : Int
  on : Bool
  c : Cnt
def RefD.row (R : RefD) : Array Value := #[.int .i64 R.B, .int .i64 R.Bs, R.fv, R.tv, .int .i64 R.c.calls, .int .i64 R.c.reads, .int .i64 R.c.appends, .int .i64 R.c.faults, .int .i64 R.c.full, .int .i64 R.c.used, .int .i64 R.c.most, .bool R.on]
def RefD.pub (R : RefD) : PubA := ⟨R.B, R.Bs, R.on, R.fs.map RFile.pub, R.c⟩
structure RefAt (w : World) (R : RefD) : Prop where
  row : w.heap[R.p]? = some (.cells R.row 100 (0, 0))
  own : w.ownsRow 0 71 3 R.fv R.fs.length (R.fs.flatMap RFile.cells)
  tro : w.ownsRow 0 65 3 R.tv R.trs.length (R.trs.flatMap TrA.cells)
  f31 : Fam w 0 31 1 (R.fs.map RFile.r31)
  f5 : Fam w 0 5 1 (R.fs.flatMap (RFile.r5 R.B))
  len : ∀ e ∈ R.fs, e.vs.length = e.file.blocks.length
def RefD.foot (R : RefD) : List Nat := R.p :: (R.fv.ownBlock.toList ++ (R.tv.ownBlock.toList ++ (blks (R.fs.map RFile.r31) ++ blks (R.fs.flatMap (RFile.r5 R.B)))))
section
variable {w w' : World} {R R' : RefD}
theorem RefAt.kept (h : RefAt w R) (hk : ∀ b ∈ R.foot, w'.heap[b]? = w.heap[b]?) : RefAt w' R := by
  have k1 : ∀ b, R.fv.ownBlock = some b → w'.heap[b]? = w.heap[b]? := fun b hb => hk b (by simp [RefD.foot, hb])
  have k2 : ∀ b, R.tv.ownBlock = some b → w'.heap[b]? = w.heap[b]? := fun b hb => hk b (by simp [RefD.foot, hb])
  have k3 : ∀ b ∈ blks (R.fs.map RFile.r31), w'.heap[b]? = w.heap[b]? := fun b hb => hk b (by unfold RefD.foot; simp only [List.mem_cons, List.mem_append]; exact .inr (.inr (.inr (.inl hb))))
  have k4 : ∀ b ∈ blks (R.fs.flatMap (RFile.r5 R.B)), w'.heap[b]? = w.heap[b]? := fun b hb => hk b (by unfold RefD.foot; simp only [List.mem_cons, List.mem_append]; exact .inr (.inr (.inr (.inr hb))))
  exact ⟨(hk _ (by simp [RefD.foot])).trans h.row, own_kept h.own k1, own_kept h.tro k2, ⟨fun i x hx => own_kept (h.f31.own i x hx) fun g hg => k3 g (mem_blks.2 ⟨i, x, hx, hg⟩), h.f31.apart⟩, ⟨fun i x hx => own_kept (h.f5.own i x hx) fun g hg => k4 g (mem_blks.2 ⟨i, x, hx, hg⟩), h.f5.apart⟩, h.len⟩
theorem RefAt.lt (h : RefAt w R) : ∀ b ∈ R.foot, b < w.heap.size := by
  intro b hb
  simp only [RefD.foot, List.mem_append, List.mem_cons, Option.mem_toList] at hb
  rcases hb with rfl | hb | hb | hb | hb
  · exact lt_of_block h.row
  · exact (own_block h.own hb).2
  · exact (own_block h.tro hb).2
  · exact blks_lt h.f31 b hb
  · exact blks_lt h.f5 b hb
theorem RefAt.touch {F : List Nat} (h : RefAt w R) (ht : Touch F w w') (hF : ∀ b ∈ R.foot, b ∉ F) : RefAt w' R := h.kept fun b hb => ht.block b (h.lt b hb) (hF b hb)
theorem RefAt.below (h : RefAt w R) (hb : Below w.heap.size w w') : RefAt w' R := h.kept fun b hm => hb.block b (h.lt b hm)
theorem rflat3 {l : List RFile} : ∀ (k j : Nat) (e : RFile), l[k]? = some e → j < 3 → (l.flatMap RFile.cells)[k * 3 + j]? = e.cells[j]? := by
  induction l with
  | nil => intro k j e h; simp at h
  | cons a l ih =>
    intro k j e h hj
    cases k with
    | zero =>
      simp at h
      subst h
      rw [List.flatMap_cons, List.getElem?_append_left (by simp [RFile.cells]; omega), Nat.zero_mul, Nat.zero_add]
    | succ k =>
      simp at h
      rw [List.flatMap_cons, List.getElem?_append_right (by simp [RFile.cells]; omega)]
      have : (k + 1) * 3 + j - a.cells.length = k * 3 + j := by simp [RFile.cells]; omega
      rw [this]
      exact ih k j e h hj
/-- a file's cells. -/
theorem RefAt.file (h : RefAt w R) {k : Nat} {e : RFile} (he : R.fs[k]? = some e) : ∃ G gc, R.fv = .slice (some ⟨G, 0, none⟩) R.fs.length gc ∧ G < w.heap.size ∧ w.cell? ⟨G, k * 3, none⟩ = some (encStr e.name) ∧ w.cell? ⟨G, k * 3 + 1, none⟩ = some (.bool e.file.shut) ∧ w.cell? ⟨G, k * 3 + 2, none⟩ = some e.sv ∧ ∀ j, w.frozen? ⟨G, j, none⟩ = false := by
  have c0 := rflat3 k 0 e he (by omega)
  have c1 := rflat3 k 1 e he (by omega)
  have c2 := rflat3 k 2 e he (by omega)
  obtain ⟨G, gc, hv, _, hG, d0, _⟩ := own_cell h.own (j := k * 3) (x := encStr e.name) (by simpa [RFile.cells] using c0)
  have at_ : ∀ (j : Nat) (x : Value), (R.fs.flatMap RFile.cells)[j]? = some x → w.cell? ⟨G, j, none⟩ = some x := fun j x hj => by
    obtain ⟨g', c', e', _, _, hc, _⟩ := own_cell h.own hj
    rw [hv] at e'
    simp only [Value.slice.injEq, Option.some.injEq, Addr.mk.injEq] at e'
    obtain ⟨⟨rfl, _⟩, _⟩ := e'
    exact hc
  refine ⟨G, gc, hv, hG, d0, at_ _ _ (by simpa [RFile.cells] using c1), at_ _ _ (by simpa [RFile.cells] using c2), fun j => ?_⟩
  rcases h.own.2 with ⟨e', _⟩ | ⟨g', cap, cur, e', _, hr, _⟩
  · rw [hv] at e'
    cases e'
  · rw [hv] at e'
    simp only [Value.slice.injEq, Option.some.injEq, Addr.mk.injEq] at e'
    obtain ⟨⟨rfl, _⟩, _⟩ := e'
    exact unfrozen_row hr j
end
/-- where a name stands, or would. -/
def findI (names : List (List UInt8)) (key : List UInt8) : Nat := (names.takeWhile fun a => bytesBefore a key).length
theorem findI_le (names : List (List UInt8)) (key : List UInt8) : findI names key ≤ names.length := by
  unfold findI
  exact (List.takeWhile_prefix _).length_le
theorem findI_at {key a : List UInt8} : ∀ {names : List (List UInt8)} {k : Nat}, (∀ j b, j < k → names[j]? = some b → bytesBefore b key = true) → names[k]? = some a → bytesBefore a key = false → findI names key = k
  | [], k, _, ha, _ => by simp at ha
  | x :: r, 0, _, ha, hb => by
    simp at ha
    subst ha
    simp [findI, hb]
  | x :: r, k + 1, h, ha, hb => by
    have hx : bytesBefore x key = true := h 0 x (by omega) rfl
    have := findI_at (names := r) (k := k) (fun j b hj hjb => h (j + 1) b (by omega) (by simpa using hjb)) (by simpa using ha) hb
    simp [findI, hx] at this ⊢
    exact this
theorem findI_all {key : List UInt8} : ∀ {names : List (List UInt8)}, (∀ (j : Nat) (b : List UInt8), names[j]? = some b → bytesBefore b key = true) → findI names key = names.length
  | [], _ => rfl
  | x :: r, h => by
    have hx : bytesBefore x key = true := h 0 x rfl
    have := findI_all (names := r) (fun j b hj => h (j + 1) b (by simpa using hj))
    simp [findI, hx] at this ⊢
    exact this
end Go.Proofs.YtcpncfngadablaaGreatDoor
/-
  The document's disk: find, known.
-/
namespace Go.Proofs.YtcpncfngadablaaGreatDoor
open Go.RowKit Go.Deep ShfKit
set_option maxRecDepth 100000
def RefD.names (R : RefD) : List (List UInt8) := R.fs.map RFile.name
/-- is the name there? -/
def RefD.has (R : RefD) (key : List UInt8) : Bool := R.names[findI R.names key]? == some key
set_option maxHeartbeats 2000000 in
theorem find_any {w : World} {R : RefD} (h : RefAt w R) (key : List UInt8) (hn : R.fs.length ≤ 1099511627776) :
    Calls Tryz.prog 96 #[.pointer (some ⟨R.p, 0, none⟩), encStr key] w fun e w' => e = .returned (.tuple #[.int .i64 (findI R.names key : Nat), .bool (R.has key)]) ∧ Quiet w w' := by
  obtain ⟨p, hp⟩ : ∃ p, p = R.p := ⟨_, rfl⟩
  obtain ⟨n, hnn⟩ : ∃ n, n = R.fs.length := ⟨_, rfl⟩
  obtain ⟨fa, fc, hfv⟩ := sh_slice h.own
  rw [← hnn] at hfv hn
  have c2 : w.cell? ⟨p, 2, none⟩ = some (.slice fa n fc) := by
    rw [hp, cell_row h.row]
    show some R.fv = _
    rw [hfv]
  have HR := hid h
  have HNN := hid hnn
  have HFV := hid hfv
  have HNM : Hid (R.names.length = n) := by rw [hnn]; show _ = _; simp [RefD.names]
  rw [← hp]
  clear h hp hnn hfv
  go_enter Tryz.func96, Tryz.ntmps96
  go_wp2_with fail
  go_loopw [6] (fun iv W => Hid (∃ i : Nat, iv = .int .i64 (i : Int) ∧ i ≤ n ∧ W = w ∧ ∀ j b, j < i → R.names[j]? = some b → bytesBefore b key = true)) (fun iv _ => match iv with | .int _ i => n + 1 - i.toNat | _ => 0)
  case atStart => exact ⟨0, rfl, Nat.zero_le _, rfl, fun j b hj => by omega⟩
  case round =>
    obtain ⟨i, rfl, hin, rfl, hall⟩ := hrel.out
    clear hrel
    have HA := hid hall
    clear hall
    rcases Nat.lt_or_eq_of_le hin with hlt | hlt
    · obtain ⟨e, he⟩ : ∃ e, R.fs[i]? = some e := ⟨_, List.getElem?_eq_getElem (by rw [← HNN.out]; exact hlt)⟩
      obtain ⟨G, gc, hG, _, c0, _, _, _⟩ := HR.out.file he
      rw [HFV.out, ← HNN.out] at hG
      simp only [Value.slice.injEq, true_and] at hG
      obtain ⟨rfl, rfl⟩ := hG
      have hne : R.names[i]? = some e.name := by unfold RefD.names; rw [List.getElem?_map, he]; rfl
      obtain ⟨nm, hnm⟩ : ∃ nm, nm = e.name := ⟨_, rfl⟩
      rw [← hnm] at c0 hne
      have hl := less_before nm key
      have hlt1 : (i : Int) < (n : Int) := by omega
      have V1 : IntKind.i64.wrap ((i : Int) + 1) = (i : Int) + 1 := by rw [IntKind.wrap_i64]; omega
      have i0 : (0 : Int) ≤ (i : Int) := by omega
      have HNE := hid hne
      clear he hnm hne
      cases hb : bytesBefore nm key with
      | true =>
        rw [hb] at hl
        have HB := hid hb
        clear hb
        go_wp2_with fail
        clear V1
        refine ⟨⟨i + 1, by go_num, by omega, trivial, fun j b hj hjb => ?_⟩, ?_⟩
        · by_cases hji : j < i
          · exact HA.out j b hji hjb
          · obtain rfl : j = i := by omega
            rw [HNE.out] at hjb
            cases hjb
            exact HB.out
        · show n + 1 - ((i : Int) + 1).toNat < n + 1 - (i : Int).toNat
          omega
      | false =>
        rw [hb] at hl
        have HF := hid (findI_at HA.out HNE.out hb)
        have HH : Hid (R.has key = (nm == key)) := by
          show _ = _
          unfold RefD.has
          rw [HF.out, HNE.out]
          by_cases hx : nm = key <;> simp [hx]
        clear hb HA
        by_cases hx : nm = key
        · have HX : Hid (R.has key = true) := by rw [HH.out, hx]; show _ = _; simp
          subst hx
          clear HH
          go_wp2_with fail
          go_quiet (fail)
          go_wp2_with fail
          refine bodyPost_ret (v := .tuple #[.int .i64 (i : Int), .bool true]) (by simp [results, Tryz.results96, go_sem]) rfl ?_
          exact ⟨by rw [HF.out, HX.out], ⟨_, rfl⟩⟩
        · have HX : Hid (R.has key = false) := by rw [HH.out]; show _ = _; simpa using hx
          have hx2 : ¬ nm.toArray = key.toArray := by simpa using hx
          have hx4 : ¬ ({ data := nm.toArray } : ByteArray) = { data := key.toArray } := by simpa using hx
          clear HH
          go_wp2_with fail
          go_quiet (fail)
          go_wp2_with fail
          refine bodyPost_ret (v := .tuple #[.int .i64 (i : Int), .bool false]) (by simp [results, Tryz.results96, go_sem]; exact hx) rfl ?_
          exact ⟨by rw [HF.out, HX.out], ⟨_, rfl⟩⟩
    · have hlt1 : ¬ (i : Int) < (n : Int) := by omega
      have HF : Hid (findI R.names key = n) := by
        rw [← HNM.out]
        exact findI_all fun j b hj => HA.out j b (by have := (List.getElem?_eq_some_iff.1 hj).1; rw [HNM.out] at this; omega) hj
      have HX : Hid (R.has key = false) := by
        show _ = _
        unfold RefD.has
        rw [HF.out, ← HNM.out, List.getElem?_eq_none (Nat.le_refl _)]
        rfl
      have hl9 := hlt.symm
      clear hlt HA
      subst hl9
      go_wp2_with fail
      go_quiet (fail)
      go_wp2_with fail
      refine bodyPost_ret (v := .tuple #[.int .i64 (n : Int), .bool false]) (by simp [results, Tryz.results96, go_sem]) rfl ?_
      exact ⟨by rw [HF.out, HX.out], ⟨_, rfl⟩⟩

theorem quiet_below {w w' : World} (h : Quiet w w') : Below w.heap.size w w' := (Quiet.touch h []).below (Nat.le_refl _) (by simp)
/-- what known answers: the place, the refusal. -/
def RefD.known (R : RefD) (key : List UInt8) : Nat × Int := if R.on then (if nameB ⟨key.toArray⟩ then (if R.has key then (findI R.names key, 0) else (0, 12)) else (0, 11)) else (0, 10)
set_option maxHeartbeats 2000000 in
theorem known_any {w : World} {R : RefD} (h : RefAt w R) (key : List UInt8) (hk : key.length ≤ 1099511627776) (hn : R.fs.length ≤ 1099511627776) :
    Calls Tryz.prog 99 #[.pointer (some ⟨R.p, 0, none⟩), encStr key] w fun e w' => e = .returned (.tuple #[.int .i64 ((R.known key).1 : Nat), .int .i64 (R.known key).2]) ∧ Quiet w w' := by
  have HN := hid (named_any ⟨key.toArray⟩ (by simpa [ByteArray.size] using hk) w)
  have HF := hid (find_any h key hn)
  obtain ⟨p, hp⟩ : ∃ p, p = R.p := ⟨_, rfl⟩
  have c11 : w.cell? ⟨p, 11, none⟩ = some (.bool R.on) := by
    rw [hp, cell_row h.row]
    rfl
  rw [← hp] at HF ⊢
  clear h hp
  cases ho : R.on with
  | false =>
    have HK : Hid (R.known key = (0, 10)) := by show _ = _; unfold RefD.known; rw [ho]; rfl
    rw [ho] at c11
    clear ho
    go_enter Tryz.func99, Tryz.ntmps99
    go_wp2_with fail
    refine bodyPost_ret (v := .tuple #[.int .i64 0, .int .i64 10]) (by simp [results, Tryz.results99, go_sem]) rfl ?_
    exact ⟨by rw [HK.out]; rfl, ⟨0, rfl⟩⟩
  | true =>
    rw [ho] at c11
    cases hb : nameB ⟨key.toArray⟩ with
    | false =>
      have HK : Hid (R.known key = (0, 11)) := by show _ = _; unfold RefD.known; rw [ho, hb]; rfl
      rw [hb] at HN
      clear ho hb
      go_enter Tryz.func99, Tryz.ntmps99
      go_wp2_with (go_at_call 60; refine HN.out.mono ?_; rintro e w1 ⟨rfl, rfl⟩)
      refine bodyPost_ret (v := .tuple #[.int .i64 0, .int .i64 11]) (by simp [results, Tryz.results99, go_sem]) rfl ?_
      exact ⟨by rw [HK.out]; rfl, ⟨0, rfl⟩⟩
    | true =>
      rw [hb] at HN
      cases hh : R.has key with
      | false =>
        have HK : Hid (R.known key = (0, 12)) := by show _ = _; unfold RefD.known; rw [ho, hb, hh]; rfl
        rw [hh] at HF
        clear ho hb hh
        go_enter Tryz.func99, Tryz.ntmps99
        go_wp2_with (first
          | (go_at_call 60; refine HN.out.mono ?_; rintro e w1 ⟨rfl, rfl⟩)
          | (go_at_call 96; refine HF.out.mono ?_; rintro e w2 ⟨rfl, hq⟩; have HQ := hid hq; clear hq))
        refine bodyPost_ret (v := .tuple #[.int .i64 0, .int .i64 12]) (by simp [results, Tryz.results99, go_sem]) rfl ?_
        exact ⟨by rw [HK.out]; rfl, HQ.out⟩
      | true =>
        have HK : Hid (R.known key = (findI R.names key, 0)) := by show _ = _; unfold RefD.known; rw [ho, hb, hh]; rfl
        rw [hh] at HF
        obtain ⟨f, hf⟩ : ∃ f, f = findI R.names key := ⟨_, rfl⟩
        rw [← hf] at HF HK
        clear ho hb hh hf
        go_enter Tryz.func99, Tryz.ntmps99
        go_wp2_with (first
          | (go_at_call 60; refine HN.out.mono ?_; rintro e w1 ⟨rfl, rfl⟩)
          | (go_at_call 96; refine HF.out.mono ?_; rintro e w2 ⟨rfl, hq⟩; have HQ := hid hq; clear hq))
        refine bodyPost_ret (v := .tuple #[.int .i64 (f : Int), .int .i64 0]) (by simp [results, Tryz.results99, go_sem]) rfl ?_
        exact ⟨by rw [HK.out], HQ.out⟩
end Go.Proofs.YtcpncfngadablaaGreatDoor
/-
  The document's disk: met, what a trouble answers.
-/
namespace Go.Proofs.YtcpncfngadablaaGreatDoor
open Go.RowKit Go.Deep ShfKit
set_option maxRecDepth 100000
section
variable {w w' : World} {R : RefD}
/-- the numbers of the document's disk have been set anew. -/
theorem RefAt.reset (h : RefAt w R) {R' : RefD} (hp : R'.p = R.p) (hf : R'.fv = R.fv) (ht : R'.tv = R.tv) (hs : R'.fs = R.fs) (hr : R'.trs = R.trs) (hB : R'.B = R.B) (hrow : w'.heap[R.p]? = some (.cells R'.row 100 (0, 0))) (hb : But 100 w w') : RefAt w' R' := by
  obtain ⟨p', fv', tv', fs', trs', B', Bs', on', c'⟩ := R'
  simp only at hp hf ht hs hr hB
  subst hp hf ht hs hr hB
  exact ⟨hrow, hb.own h.own (by decide), hb.own h.tro (by decide), hb.fam h.f31 (by decide), hb.fam h.f5 (by decide), h.len⟩
theorem but_touch {t : Nat} {b : Nat} {c : Array Value} {fz : Nat × Nat} (ht : Touch [b] w w') (hb : w.heap[b]? = some (.cells c t fz)) : But t w w' := But.of_grown (grown_of_touch ht) (fun k hk => by cases hk; exact ⟨c, fz, hb⟩)
end
/-- what a trouble answers; whether the call is done; the disk behind it. -/
def RefD.met (R : RefD) (t : TrA) (whole : Bool) : Int × Bool × RefD :=
  if t.kind = 1 then (if whole then (0, true, R) else (9, false, { R with c := { R.c with faults := R.c.faults + 1 } }))
  else if t.kind = 2 then (10, decide (0 < t.bytes), { R with on := false })
  else (0, true, R)
set_option maxHeartbeats 2000000 in
theorem met_any {w : World} {R : RefD} (h : RefAt w R) (t : TrA) (whole : Bool) (hf : 0 ≤ R.c.faults ∧ R.c.faults ≤ 1099511627776) :
    Calls Tryz.prog 98 #[.pointer (some ⟨R.p, 0, none⟩), .agg #[.int .i64 t.at_, .int .i64 t.kind, .int .i64 t.bytes], .bool whole] w fun e w' => e = .returned (.tuple #[.int .i64 (R.met t whole).1, .bool (R.met t whole).2.1]) ∧ RefAt w' (R.met t whole).2.2 ∧ Touch [R.p] w w' := by
  obtain ⟨p, hp⟩ : ∃ p, p = R.p := ⟨_, rfl⟩
  obtain ⟨W, hW⟩ : ∃ W, W = w.alloc (.cells #[.int .i64 t.at_, .int .i64 t.kind, .int .i64 t.bytes] 65) := ⟨_, rfl⟩
  have bW : Below w.heap.size w W := by rw [hW]; exact (Below.refl _ _).alloc (Nat.le_refl _) _
  have hRW := h.below bW
  have tW : Touch [p] w W := Touch.of_below bW (Nat.le_refl _)
  have rb : W.heap[w.heap.size]? = some (.cells #[.int .i64 t.at_, .int .i64 t.kind, .int .i64 t.bytes] 65 (0, 0)) := by rw [hW]; exact heap_alloc_new _ _
  have d1 := cell_row rb 1
  have d2 := cell_row rb 2
  simp at d1 d2
  have r7 := cell_row hRW.row 7
  have r11 := cell_row hRW.row 11
  have u7 := unfrozen_row hRW.row 7
  have u11 := unfrozen_row hRW.row 11
  have hpl := lt_of_block h.row
  have hpw : p < w.heap.size := by rw [hp]; exact hpl
  have s7 := cell_row h.row 7
  have s11 := cell_row h.row 11
  have w7 : w.cell? ⟨p, 7, none⟩ = some (.int .i64 R.c.faults) := by rw [hp, s7]; rfl
  have w11 : w.cell? ⟨p, 11, none⟩ = some (.bool R.on) := by rw [hp, s11]; rfl
  have x7 : w.frozen? ⟨p, 7, none⟩ = false := by rw [hp]; exact unfrozen_row h.row 7
  have x11 : w.frozen? ⟨p, 11, none⟩ = false := by rw [hp]; exact unfrozen_row h.row 11
  have q7 : W.cell? ⟨p, 7, none⟩ = some (.int .i64 R.c.faults) := by rw [hp, r7]; rfl
  have q11 : W.cell? ⟨p, 11, none⟩ = some (.bool R.on) := by rw [hp, r11]; rfl
  have v7 : W.frozen? ⟨p, 7, none⟩ = false := by rw [hp]; exact u7
  have v11 : W.frozen? ⟨p, 11, none⟩ = false := by rw [hp]; exact u11
  have HRW := hid hRW
  have HR0 := hid h
  have TW := hid tW
  have HP := hid hp
  have HE := hid hW
  have hne : w.heap.size ≠ p := by omega
  rw [← hp]
  clear r7 r11 u7 u11 s7 s11 hRW tW rb bW hW h q7 q11 v7 v11 d1 d2
  by_cases h1 : t.kind = 1
  · cases whole with
    | true =>
      have HM : Hid (R.met t true = (0, true, R)) := by show _ = _; unfold RefD.met; rw [if_pos h1]; rfl
      rw [h1] at HE ⊢
      clear hp hpl
      go_enter Tryz.func98, Tryz.ntmps98
      go_wp2_with fail
      rw [← HE.out]
      refine bodyPost_ret (v := .tuple #[.int .i64 0, .bool true]) (by simp [results, Tryz.results98, go_sem]) rfl ?_
      rw [HM.out]
      exact ⟨rfl, HRW.out, TW.out⟩
    | false =>
      have HM : Hid (R.met t false = (9, false, { R with c := { R.c with faults := R.c.faults + 1 } })) := by show _ = _; unfold RefD.met; rw [if_pos h1]; rfl
      have V1 : IntKind.i64.wrap (R.c.faults + 1) = R.c.faults + 1 := by rw [IntKind.wrap_i64]; omega
      have FIN : Hid (∀ o, RefAt ((w.setCell ⟨p, 7, none⟩ (.int .i64 (R.c.faults + 1))).alloc o) { R with c := { R.c with faults := R.c.faults + 1 } } ∧ Touch [p] w ((w.setCell ⟨p, 7, none⟩ (.int .i64 (R.c.faults + 1))).alloc o)) := fun o => by
        have hr : RefAt (w.setCell ⟨p, 7, none⟩ (.int .i64 (R.c.faults + 1))) { R with c := { R.c with faults := R.c.faults + 1 } } := by
          refine HR0.out.reset rfl rfl rfl rfl rfl rfl ?_ ?_
          · rw [hp]
            exact heap_setCell_row HR0.out.row 7 _
          · rw [hp]
            exact But.setCell HR0.out.row _
        exact ⟨hr.below ((Below.refl _ _).alloc (Nat.le_refl _) _), ((Touch.refl [p] w).setCell (.inl (by simp)) _).alloc _⟩
      rw [h1] at HE ⊢
      clear hp hpl
      go_enter Tryz.func98, Tryz.ntmps98
      go_wp2_with fail
      refine bodyPost_ret (v := .tuple #[.int .i64 9, .bool false]) (by simp [results, Tryz.results98, go_sem]) rfl ?_
      rw [HM.out]
      exact ⟨rfl, FIN.out _⟩
  · by_cases h2 : t.kind = 2
    · have HM : Hid (R.met t whole = (10, decide (0 < t.bytes), { R with on := false })) := by show _ = _; unfold RefD.met; rw [if_neg h1, if_pos h2]
      have FIN : Hid (∀ o, RefAt ((w.setCell ⟨p, 11, none⟩ (.bool false)).alloc o) { R with on := false } ∧ Touch [p] w ((w.setCell ⟨p, 11, none⟩ (.bool false)).alloc o)) := fun o => by
        have hr : RefAt (w.setCell ⟨p, 11, none⟩ (.bool false)) { R with on := false } := by
          refine HR0.out.reset rfl rfl rfl rfl rfl rfl ?_ ?_
          · rw [hp]
            exact heap_setCell_row HR0.out.row 11 _
          · rw [hp]
            exact But.setCell HR0.out.row _
        exact ⟨hr.below ((Below.refl _ _).alloc (Nat.le_refl _) _), ((Touch.refl [p] w).setCell (.inl (by simp)) _).alloc _⟩
      rw [h2] at HE ⊢
      clear hp hpl h1 h2
      go_enter Tryz.func98, Tryz.ntmps98
      go_wp2_with fail
      go_quiet (fail)
      go_wp2_with fail
      refine bodyPost_ret (v := .tuple #[.int .i64 10, .bool (decide (0 < t.bytes))]) (by simp [results, Tryz.results98, go_sem]) rfl ?_
      rw [HM.out]
      exact ⟨rfl, (FIN.out _).1.below (quiet_below ⟨_, rfl⟩), (FIN.out _).2.drewN _⟩
    · have HM : Hid (R.met t whole = (0, true, R)) := by show _ = _; unfold RefD.met; rw [if_neg h1, if_neg h2]
      clear hp hpl
      go_enter Tryz.func98, Tryz.ntmps98
      go_wp2_with fail
      rw [← HE.out]
      refine bodyPost_ret (v := .tuple #[.int .i64 0, .bool true]) (by simp [results, Tryz.results98, go_sem]) rfl ?_
      rw [HM.out]
      exact ⟨rfl, HRW.out, TW.out⟩
end Go.Proofs.YtcpncfngadablaaGreatDoor
/-
  The document's disk: a call is numbered: what befalls it.
-/
namespace Go.Proofs.YtcpncfngadablaaGreatDoor
open Go.RowKit Go.Deep ShfKit
set_option maxRecDepth 100000
def TrA.hits (t : TrA) (k : Int) : Bool := t.at_ == k && (t.kind == 1 || t.kind == 2)
def RefD.troub (R : RefD) : TrA := (R.trs.find? fun t => t.hits R.c.calls).getD ⟨0, 0, 0⟩
theorem tflat3 {l : List TrA} : ∀ (k j : Nat) (e : TrA), l[k]? = some e → j < 3 → (l.flatMap TrA.cells)[k * 3 + j]? = e.cells[j]? := by
  induction l with
  | nil => intro k j e h; simp at h
  | cons a l ih =>
    intro k j e h hj
    cases k with
    | zero =>
      simp at h
      subst h
      rw [List.flatMap_cons, List.getElem?_append_left (by simp [TrA.cells]; omega), Nat.zero_mul, Nat.zero_add]
    | succ k =>
      simp at h
      rw [List.flatMap_cons, List.getElem?_append_right (by simp [TrA.cells]; omega)]
      have : (k + 1) * 3 + j - a.cells.length = k * 3 + j := by simp [TrA.cells]; omega
      rw [this]
      exact ih k j e h hj
theorem RefAt.troubAt {w : World} {R : RefD} (h : RefAt w R) {k : Nat} {t : TrA} (ht : R.trs[k]? = some t) : ∃ G gc, R.tv = .slice (some ⟨G, 0, none⟩) R.trs.length gc ∧ G < w.heap.size ∧ w.cell? ⟨G, k * 3, none⟩ = some (.int .i64 t.at_) ∧ w.cell? ⟨G, k * 3 + 1, none⟩ = some (.int .i64 t.kind) ∧ w.cell? ⟨G, k * 3 + 2, none⟩ = some (.int .i64 t.bytes) := by
  have c0 := tflat3 k 0 t ht (by omega)
  have c1 := tflat3 k 1 t ht (by omega)
  have c2 := tflat3 k 2 t ht (by omega)
  obtain ⟨G, gc, hv, _, hG, d0, _⟩ := own_cell h.tro (j := k * 3) (x := .int .i64 t.at_) (by simpa [TrA.cells] using c0)
  have at_ : ∀ (j : Nat) (x : Value), (R.trs.flatMap TrA.cells)[j]? = some x → w.cell? ⟨G, j, none⟩ = some x := fun j x hj => by
    obtain ⟨g', c', e', _, _, hc, _⟩ := own_cell h.tro hj
    rw [hv] at e'
    simp only [Value.slice.injEq, Option.some.injEq, Addr.mk.injEq] at e'
    obtain ⟨⟨rfl, _⟩, _⟩ := e'
    exact hc
  exact ⟨G, gc, hv, hG, d0, at_ _ _ (by simpa [TrA.cells] using c1), at_ _ _ (by simpa [TrA.cells] using c2)⟩
theorem find_first {l : List TrA} {f : TrA → Bool} {k : Nat} {t : TrA} (hn : ∀ j b, j < k → l[j]? = some b → f b = false) (ht : l[k]? = some t) (hf : f t = true) : l.find? f = some t := by
  rw [List.find?_eq_some_iff_getElem]
  refine ⟨hf, k, (List.getElem?_eq_some_iff.1 ht).1, (List.getElem?_eq_some_iff.1 ht).2, fun j hj => ?_⟩
  have := hn j _ hj (List.getElem?_eq_getElem (by have := (List.getElem?_eq_some_iff.1 ht).1; omega))
  simp [this]
theorem find_no {l : List TrA} {f : TrA → Bool} (hn : ∀ (j : Nat) (b : TrA), l[j]? = some b → f b = false) : l.find? f = none := by
  rw [List.find?_eq_none]
  intro x hx
  obtain ⟨j, hj⟩ := List.getElem?_of_mem hx
  rw [hn j x hj]
  simp
/-- the disk whose calls are one more. -/
abbrev RefD.called (R : RefD) : RefD := { R with c := { R.c with calls := R.c.calls + 1 } }
set_option maxHeartbeats 4000000 in
theorem trouble_any {w : World} {R : RefD} (h : RefAt w R) (hc : 0 ≤ R.c.calls ∧ R.c.calls ≤ 1099511627776) (hl : R.trs.length ≤ 1099511627776) :
    Calls Tryz.prog 97 #[.pointer (some ⟨R.p, 0, none⟩)] w fun e w' => e = .returned (.agg #[.int .i64 R.troub.at_, .int .i64 R.troub.kind, .int .i64 R.troub.bytes]) ∧ RefAt w' R.called ∧ Touch [R.p] w w' := by
  obtain ⟨p, hp⟩ : ∃ p, p = R.p := ⟨_, rfl⟩
  obtain ⟨n, hn⟩ : ∃ n, n = R.trs.length := ⟨_, rfl⟩
  obtain ⟨ta, tc, htv⟩ := sh_slice h.tro
  rw [← hn] at htv hl
  have hpw : p < w.heap.size := by rw [hp]; exact lt_of_block h.row
  have w4 : w.cell? ⟨p, 4, none⟩ = some (.int .i64 R.c.calls) := by rw [hp, cell_row h.row]; rfl
  have x4 : w.frozen? ⟨p, 4, none⟩ = false := by rw [hp]; exact unfrozen_row h.row 4
  obtain ⟨W1, hW1⟩ : ∃ W1, W1 = (w.setCell ⟨p, 4, none⟩ (.int .i64 (R.c.calls + 1))).alloc (.cells #[.int .i64 0, .int .i64 0, .int .i64 0] 65) := ⟨_, rfl⟩
  have hset : RefAt (w.setCell ⟨p, 4, none⟩ (.int .i64 (R.c.calls + 1))) R.called := by
    refine h.reset rfl rfl rfl rfl rfl rfl ?_ ?_
    · rw [hp]
      exact heap_setCell_row h.row 4 _
    · rw [hp]
      exact But.setCell h.row _
  have hR1 : RefAt W1 R.called := by rw [hW1]; exact hset.below ((Below.refl _ _).alloc (Nat.le_refl _) _)
  have t1 : Touch [p] w W1 := by rw [hW1]; exact ((Touch.refl [p] w).setCell (.inl (by simp)) _).alloc _
  have rb : W1.heap[w.heap.size]? = some (.cells #[.int .i64 0, .int .i64 0, .int .i64 0] 65 (0, 0)) := by
    rw [hW1]
    have := heap_alloc_new (w.setCell ⟨p, 4, none⟩ (.int .i64 (R.c.calls + 1))) (.cells #[.int .i64 0, .int .i64 0, .int .i64 0] 65)
    simpa [World.setCell] using this
  have z1 : W1.heap.size = w.heap.size + 1 := by rw [hW1]; simp [World.setCell]
  have p3 : W1.cell? ⟨p, 3, none⟩ = some (.slice ta n tc) := by
    have := cell_row hR1.row 3
    rw [hp]
    have h2 : W1.cell? ⟨R.p, 3, none⟩ = some R.tv := this
    rw [h2, htv]
  have HR1 := hid hR1
  have T1 := hid t1
  have RB := hid rb
  have Z1 := hid z1
  have HP := hid hp
  have HN := hid hn
  have HTV := hid htv
  have HW1 := hid hW1
  have hnr : Hid (w.heap.size ∉ R.called.foot) := fun hm => by
    have := hset.lt _ hm
    simp [World.setCell] at this
  have V1 : IntKind.i64.wrap (R.c.calls + 1) = R.c.calls + 1 := by rw [IntKind.wrap_i64]; omega
  rw [← hp]
  clear h hset hR1 t1 rb z1 hp hn htv hW1
  go_enter Tryz.func97, Tryz.ntmps97
  go_wp2_with fail
  rw [← HW1.out]
  go_loopw [4, 5] (fun iv _ W => Hid (∃ i : Nat, iv = .int .i64 (i : Int) ∧ i ≤ n ∧ Below W1.heap.size W1 W ∧ ∀ j b, j < i → R.trs[j]? = some b → b.hits R.c.calls = false)) (fun iv _ _ => match iv with | .int _ i => n + 1 - i.toNat | _ => 0)
  case atStart => exact ⟨0, rfl, Nat.zero_le _, Below.refl _ _, fun j b hj => by omega⟩
  case round =>
    clear p3
    obtain ⟨W, hW⟩ : ∃ W, W = wr := ⟨_, rfl⟩
    rw [← hW] at hrel ⊢
    clear hW
    obtain ⟨i, rfl, hin, hbw, hall⟩ := hrel.out
    clear hrel
    have hR := HR1.out.below hbw
    have p3 : W.cell? ⟨p, 3, none⟩ = some (.slice ta n tc) := by
      have h2 : W.cell? ⟨R.p, 3, none⟩ = some R.tv := cell_row hR.row 3
      rw [HP.out, h2, HTV.out]
    have rbW := (hbw.block _ (lt_of_block RB.out)).trans RB.out
    have b0 := cell_row rbW 0
    have b1 := cell_row rbW 1
    have b2 := cell_row rbW 2
    have f0 := unfrozen_row rbW 0
    have f1 := unfrozen_row rbW 1
    have f2 := unfrozen_row rbW 2
    simp at b0 b1 b2
    have rl := lt_of_block rbW
    have FIN : Hid (∀ u0 u1 u2 o, RefAt ((((W.setCell ⟨w.heap.size, 0, none⟩ u0).setCell ⟨w.heap.size, 1, none⟩ u1).setCell ⟨w.heap.size, 2, none⟩ u2).alloc o) R.called ∧ Touch [p] w ((((W.setCell ⟨w.heap.size, 0, none⟩ u0).setCell ⟨w.heap.size, 1, none⟩ u1).setCell ⟨w.heap.size, 2, none⟩ u2).alloc o)) := fun u0 u1 u2 o => by
      have tr : Touch [w.heap.size] W ((((W.setCell ⟨w.heap.size, 0, none⟩ u0).setCell ⟨w.heap.size, 1, none⟩ u1).setCell ⟨w.heap.size, 2, none⟩ u2).alloc o) := ((((Touch.refl [w.heap.size] W).setCell (.inl (by simp)) _).setCell (.inl (by simp)) _).setCell (.inl (by simp)) _).alloc _
      refine ⟨hR.touch tr (fun b hb hm => by simp at hm; subst hm; exact hnr.out hb), ?_⟩
      exact (T1.out.trans (Touch.of_below (F := []) hbw (Nat.le_refl _)) (by simp)).trans tr (fun b hb => by simp at hb; exact .inr (by omega))
    have FIN2 : Hid (∀ u0 u1 u2, RefAt (((W.setCell ⟨w.heap.size, 0, none⟩ u0).setCell ⟨w.heap.size, 1, none⟩ u1).setCell ⟨w.heap.size, 2, none⟩ u2) R.called ∧ Touch [p] w (((W.setCell ⟨w.heap.size, 0, none⟩ u0).setCell ⟨w.heap.size, 1, none⟩ u1).setCell ⟨w.heap.size, 2, none⟩ u2)) := fun u0 u1 u2 => by
      have tr : Touch [w.heap.size] W (((W.setCell ⟨w.heap.size, 0, none⟩ u0).setCell ⟨w.heap.size, 1, none⟩ u1).setCell ⟨w.heap.size, 2, none⟩ u2) := (((Touch.refl [w.heap.size] W).setCell (.inl (by simp)) _).setCell (.inl (by simp)) _).setCell (.inl (by simp)) _
      refine ⟨hR.touch tr (fun b hb hm => by simp at hm; subst hm; exact hnr.out hb), ?_⟩
      exact (T1.out.trans (Touch.of_below (F := []) hbw (Nat.le_refl _)) (by simp)).trans tr (fun b hb => by simp at hb; exact .inr (by omega))
    have RES : Hid (∀ u0 u1 u2 o, ((((W.setCell ⟨w.heap.size, 0, none⟩ u0).setCell ⟨w.heap.size, 1, none⟩ u1).setCell ⟨w.heap.size, 2, none⟩ u2).alloc o).cell? ⟨w.heap.size, 0, none⟩ = some u0 ∧ ((((W.setCell ⟨w.heap.size, 0, none⟩ u0).setCell ⟨w.heap.size, 1, none⟩ u1).setCell ⟨w.heap.size, 2, none⟩ u2).alloc o).cell? ⟨w.heap.size, 1, none⟩ = some u1 ∧ ((((W.setCell ⟨w.heap.size, 0, none⟩ u0).setCell ⟨w.heap.size, 1, none⟩ u1).setCell ⟨w.heap.size, 2, none⟩ u2).alloc o).cell? ⟨w.heap.size, 2, none⟩ = some u2) := fun u0 u1 u2 o => by
      have g3 := heap_setCell_row (heap_setCell_row (heap_setCell_row rbW 0 u0) 1 u1) 2 u2
      have g4 := (Below.heap_alloc _ o _ (lt_of_block g3)).trans g3
      refine ⟨?_, ?_, ?_⟩ <;> rw [cell_row g4] <;> rfl
    have HA := hid hall
    have HBW := hid hbw
    rcases Nat.lt_or_eq_of_le hin with hlt | hlt
    · obtain ⟨t, ht⟩ : ∃ t, R.trs[i]? = some t := ⟨_, List.getElem?_eq_getElem (by rw [← HN.out]; exact hlt)⟩
      obtain ⟨G, gc, hG, hGl, c0, c1, c2⟩ := hR.troubAt (R := R.called) ht
      have hG2 : R.tv = .slice (some ⟨G, 0, none⟩) R.trs.length gc := hG
      rw [HTV.out, ← HN.out] at hG2
      simp only [Value.slice.injEq, true_and] at hG2
      obtain ⟨rfl, rfl⟩ := hG2
      have hlt1 : (i : Int) < (n : Int) := by omega
      have V2 : IntKind.i64.wrap ((i : Int) + 1) = (i : Int) + 1 := by rw [IntKind.wrap_i64]; omega
      have i0 : (0 : Int) ≤ (i : Int) := by omega
      cases hh : t.hits R.c.calls with
      | true =>
        have TR : Hid (R.troub = t) := by show _ = _; unfold RefD.troub; rw [find_first (f := fun t => t.hits R.c.calls) HA.out ht hh]; rfl
        have h2 : t.at_ = R.c.calls ∧ (t.kind = 1 ∨ t.kind = 2) := by simpa [TrA.hits] using hh
        obtain ⟨ha, hk⟩ := h2
        clear hR hbw hall rbW ht hh HA hG
        rcases hk with hk | hk
        · go_wp2_with fail
          obtain ⟨e0, e1, e2⟩ := RES.out (.int .i64 R.c.calls) (.int .i64 1) (.int .i64 t.bytes) (.cells #[.int .i64 R.c.calls, .int .i64 1, .int .i64 t.bytes] 65)
          refine bodyPost_ret (v := .agg #[.int .i64 R.c.calls, .int .i64 1, .int .i64 t.bytes]) (by simp [results, Tryz.results97, go_sem, e0, e1, e2]) rfl ?_
          exact ⟨by rw [TR.out, ha, hk], FIN.out _ _ _ _⟩
        · go_wp2_with fail
          obtain ⟨e0, e1, e2⟩ := RES.out (.int .i64 R.c.calls) (.int .i64 2) (.int .i64 t.bytes) (.cells #[.int .i64 R.c.calls, .int .i64 2, .int .i64 t.bytes] 65)
          refine bodyPost_ret (v := .agg #[.int .i64 R.c.calls, .int .i64 2, .int .i64 t.bytes]) (by simp [results, Tryz.results97, go_sem, e0, e1, e2]) rfl ?_
          exact ⟨by rw [TR.out, ha, hk], FIN.out _ _ _ _⟩
      | false =>
        have NX : Hid (∀ j b, j < i + 1 → R.trs[j]? = some b → b.hits R.c.calls = false) := fun j b hj hjb => by
          by_cases hji : j < i
          · exact HA.out j b hji hjb
          · obtain rfl : j = i := by omega
            rw [ht] at hjb
            cases hjb
            exact hh
        have NB : Hid (∀ o, Below W1.heap.size W1 (W.alloc o)) := fun o => HBW.out.alloc HBW.out.size _
        have h2 : ¬ t.at_ = R.c.calls ∨ (t.at_ = R.c.calls ∧ ¬ t.kind = 1 ∧ ¬ t.kind = 2) := by
          by_cases ha : t.at_ = R.c.calls
          · right
            simp [TrA.hits, ha] at hh
            exact ⟨ha, hh.1, hh.2⟩
          · exact .inl ha
        clear hR hbw hall rbW ht hh HA hG FIN FIN2
        rcases h2 with ha | ⟨ha, hk1, hk2⟩
        · go_wp2_with fail
          clear V2 V1
          refine ⟨⟨i + 1, by go_num, by omega, NB.out _, NX.out⟩, ?_⟩
          show n + 1 - ((i : Int) + 1).toNat < n + 1 - (i : Int).toNat
          omega
        · have q1 : (t.kind == 1) = false := by simpa using hk1
          have q2 : (t.kind == 2) = false := by simpa using hk2
          go_wp2_with fail
          clear V2 V1
          refine ⟨⟨i + 1, by go_num, by omega, NB.out _, NX.out⟩, ?_⟩
          show n + 1 - ((i : Int) + 1).toNat < n + 1 - (i : Int).toNat
          omega
    · have hlt1 : ¬ (i : Int) < (n : Int) := by omega
      have TR : Hid (R.troub = ⟨0, 0, 0⟩) := by
        show _ = _
        unfold RefD.troub
        rw [find_no (f := fun t => t.hits R.c.calls) fun j b hj => HA.out j b (by have := (List.getElem?_eq_some_iff.1 hj).1; rw [← HN.out] at this; omega) hj]
        rfl
      clear hR hbw hall rbW HA
      have hl9 := hlt.symm
      clear hlt
      subst hl9
      go_wp2_with fail
      refine bodyPost_ret (v := .agg #[.int .i64 0, .int .i64 0, .int .i64 0]) (by simp [results, Tryz.results97, go_sem, b0, b1, b2]) rfl ?_
      exact ⟨by rw [TR.out], FIN2.out _ _ _⟩
end Go.Proofs.YtcpncfngadablaaGreatDoor
/-
  byCall told exactly: the first trouble of each number.
-/
namespace Go.Proofs.YtcpncfngadablaaGreatDoor
open Go.RowKit Go.Deep

/-- the first trouble of a list that befalls the call n. -/
def trFirst (l : List TrA) (n : Int) : TrA := (l.find? fun t => t.hits n).getD ⟨0, 0, 0⟩
/-- the map holds the first trouble of each number. -/
def TIs (T : DataW Unit) (l : List TrA) : Prop :=
  AllT T ∧ (∀ n : Int, Maps.has T (.int .i64 n) = (l.find? fun t => t.hits n).isSome) ∧ ∀ n : Int, TroubleIs T n (trFirst l n).at_ (trFirst l n).kind (trFirst l n).bytes
theorem TIs.nil : TIs (.map []) [] := ⟨AllT.nil, fun _ => rfl, fun _ => rfl⟩
theorem find_snoc (l : List TrA) (t : TrA) (n : Int) : (l ++ [t]).find? (fun t => t.hits n) = (l.find? fun t => t.hits n).or (if t.hits n then some t else none) := by
  rw [List.find?_append]
  congr 1
  simp only [List.find?_cons, List.find?_nil]
  cases t.hits n <;> rfl
theorem TIs.same {T : DataW Unit} {l : List TrA} {t : TrA} (h : TIs T l) (he : ∀ n, t.hits n = true → (l.find? fun t => t.hits n).isSome = true) : TIs T (l ++ [t]) := by
  have e : ∀ n, (l ++ [t]).find? (fun t => t.hits n) = l.find? fun t => t.hits n := fun n => by
    rw [find_snoc]
    cases hn : t.hits n with
    | false => simp
    | true =>
      have := he n hn
      cases hf : l.find? fun t => t.hits n with
      | none => rw [hf] at this; simp at this
      | some x => rfl
  refine ⟨h.1, fun n => by rw [e n]; exact h.2.1 n, fun n => ?_⟩
  have e2 : trFirst (l ++ [t]) n = trFirst l n := by unfold trFirst; rw [e n]
  rw [e2]
  exact h.2.2 n
theorem hits_at {t : TrA} {n : Int} (h : t.hits n = true) : t.at_ = n ∧ (t.kind = 1 ∨ t.kind = 2) := by
  unfold TrA.hits at h
  simpa using h
theorem hits_of {t : TrA} (h : t.kind = 1 ∨ t.kind = 2) : t.hits t.at_ = true := by
  unfold TrA.hits
  simpa using h
theorem TIs.skip {T : DataW Unit} {l : List TrA} {t : TrA} (h : TIs T l) (h1 : t.kind ≠ 1) (h2 : t.kind ≠ 2) : TIs T (l ++ [t]) :=
  h.same fun n hn => by have := (hits_at hn).2; omega
theorem TIs.taken {T : DataW Unit} {l : List TrA} {t : TrA} (h : TIs T l) (_h1 : t.kind = 1 ∨ t.kind = 2) (hh : Maps.has T (.int .i64 t.at_) = true) : TIs T (l ++ [t]) :=
  h.same fun n hn => by
    have := (hits_at hn).1
    subst this
    rw [← h.2.1]
    exact hh
theorem TIs.isMap {T : DataW Unit} {l : List TrA} (h : TIs T l) : Maps.IsMap T := by
  obtain ⟨e, rfl, _⟩ := h.1
  exact ⟨e, rfl⟩
theorem TIs.put {T : DataW Unit} {l : List TrA} {t : TrA} (h : TIs T l) (h1 : t.kind = 1 ∨ t.kind = 2) (hh : Maps.has T (.int .i64 t.at_) = false) : TIs (T.put (.int .i64 t.at_) (.agg [.lit (.int .i64 t.at_), .lit (.int .i64 t.kind), .lit (.int .i64 t.bytes)])) (l ++ [t]) := by
  have hno : l.find? (fun x => x.hits t.at_) = none := by
    have := h.2.1 t.at_
    rw [hh] at this
    cases hf : l.find? (fun x => x.hits t.at_) with
    | none => rfl
    | some x => rw [hf] at this; simp at this
  have e1 : (l ++ [t]).find? (fun x => x.hits t.at_) = some t := by rw [find_snoc, hno, hits_of h1]; rfl
  have e2 : ∀ n, n ≠ t.at_ → (l ++ [t]).find? (fun x => x.hits n) = l.find? fun x => x.hits n := fun n hn => by
    have : t.hits n = false := by
      cases hq : t.hits n with
      | false => rfl
      | true => exact absurd (hits_at hq).1.symm hn
    rw [find_snoc, this]
    simp
  refine ⟨h.1.put _ _ _ _, fun n => ?_, fun n => ?_⟩
  · by_cases hn : n = t.at_
    · subst hn
      rw [e1, Maps.has_put_same h.isMap (by trivial)]
      rfl
    · rw [e2 n hn, Maps.has_put_other (by simp [hn]), h.2.1]
  · by_cases hn : n = t.at_
    · subst hn
      unfold TroubleIs trFirst
      rw [e1, Maps.atKey_put_same h.isMap (by trivial)]
      rfl
    · have := h.2.2 n
      unfold TroubleIs trFirst at this ⊢
      rw [e2 n hn, Maps.atKey_put_other (by simp [hn]), this]
theorem troub_eq (R : RefD) : R.troub = trFirst R.trs R.c.calls := rfl
/-- what is still to come: the troubles of the numbers from n on. -/
def TFrom (T : DataW Unit) (l : List TrA) (n : Int) : Prop := ∀ m : Int, n ≤ m → TroubleIs T m (trFirst l m).at_ (trFirst l m).kind (trFirst l m).bytes
theorem TIs.from {T : DataW Unit} {l : List TrA} (h : TIs T l) (n : Int) : TFrom T l n := fun m _ => h.2.2 m
theorem TFrom.del {T : DataW Unit} {l : List TrA} {n : Int} (h : TFrom T l n) : TFrom (T.del (.int .i64 n)) l (n + 1) := fun m hm => by
  have := h m (by omega)
  unfold TroubleIs at this ⊢
  rw [Maps.atKey_del_other (by simp; omega)]
  exact this

section
variable {w w' : World}

set_option maxRecDepth 100000 in
set_option maxHeartbeats 1000000 in
theorem byCall_x {sa : Option Addr} {ca : Nat} {l : List TrA} (hl : TrsAt w sa l) (hlen : l.length ≤ 1099511627776) :
    Calls Tryz.prog 63 #[.slice sa l.length ca] w fun e w' => e = .returned (.map (some w.heap.size)) ∧ (∃ n T, w'.ownsMap Tryz.prog 3 trElem w.heap.size n T ∧ TIs T l) ∧ Below w.heap.size w w' := by
  have hmm := @run_makeMap Tryz.prog
  have HL := hid hl
  have HLN := hid hlen
  clear hl hlen
  go_enter Tryz.func63, Tryz.ntmps63
  go_wp2
  clear hmm
  go_loopw [11] (fun i wr => ∃ (k n : Nat) (T : DataW Unit), k ≤ l.length ∧ i = .int .i64 k ∧ n ≤ k ∧ wr.ownsMap Tryz.prog 3 trElem w.heap.size n T ∧ TIs T (l.take k) ∧ Below w.heap.size w wr) (fun i _ => l.length - (intOf i).toNat)
  case atStart =>
    exact ⟨0, 0, .map [], Nat.zero_le _, rfl, Nat.le_refl _, empty_map _ _ _ _ (heap_alloc_new w _), TIs.nil, (Below.refl _ w).alloc (Nat.le_refl _) _⟩
  case round =>
    obtain ⟨k, n, T, hk, rfl, hnk, hm, hT, hb⟩ := hrel
    by_cases hlt : k < l.length
    · obtain ⟨a, rfl, hblk, c0, c1, c2⟩ := HL.out.read hlt hb
      have hwf := HL.out.wf k hlt
      obtain ⟨at_, e0⟩ : ∃ x, x = l[k].at_ := ⟨_, rfl⟩
      obtain ⟨kd, e1⟩ : ∃ x, x = l[k].kind := ⟨_, rfl⟩
      obtain ⟨by_, e2⟩ : ∃ x, x = l[k].bytes := ⟨_, rfl⟩
      rw [← e0] at c0 hwf
      rw [← e1] at c1
      rw [← e2] at c2
      have HN : Hid ((kd = 1 ∨ kd = 2 → Maps.has T (.int .i64 at_) = true → TIs T (l.take (k + 1))) ∧ (kd = 1 ∨ kd = 2 → Maps.has T (.int .i64 at_) = false → TIs (T.put (.int .i64 at_) (.agg [.lit (.int .i64 at_), .lit (.int .i64 kd), .lit (.int .i64 by_)])) (l.take (k + 1))) ∧ (kd ≠ 1 → kd ≠ 2 → TIs T (l.take (k + 1)))) := by
        rw [e0, e1, e2, List.take_succ_eq_append_getElem hlt]
        exact ⟨fun h1 h2 => hT.taken h1 h2, fun h1 h2 => hT.put h1 h2, fun h1 h2 => hT.skip h1 h2⟩
      clear e0 e1 e2
      have hkI : (k : Int) < (l.length : Int) := by omega
      have hk0 : (0 : Int) ≤ (k : Int) := by omega
      have hwk := wrap_step hlt HLN.out
      obtain ⟨a1, k1, b1, ht⟩ := hT.1.trouble at_
      have hlw : w.heap.size < wr.heap.size := hm.lt
      have HM := hid hm
      have HB := hid hb
      have HT := hid hT
      have HLT := hid hlt
      have HNK := hid hnk
      have HBX : Hid (∀ o : Obj, Below w.heap.size w (wr.alloc o)) := hid fun o => hb.alloc hb.size o
      clear hk hlt hnk
      by_cases h1 : kd = 1
      · subst h1
        have hmx := hm.alloc (.cells #[.int .i64 at_, .int .i64 1, .int .i64 by_] 65)
        have hlook := tr_look hmx ht hwf
        by_cases hh : Maps.has T (.int .i64 at_) = true
        · have HN1 := hid (HN.out.1 (.inl rfl) hh)
          rw [hh] at hlook
          clear hm hb hT ht hmx hwf hh
          go_wp2
          try rw [hwk]
          exact ⟨⟨k + 1, n, T, HLT.out, next_num k, Nat.le_succ_of_le HNK.out, (HM.out.alloc _).alloc _, HN1.out, ((HB.out.alloc HB.out.size _).alloc (Nat.le_trans HB.out.size (by simp)) _)⟩, less_step HLT.out⟩
        · have hh' : Maps.has T (.int .i64 at_) = false := by simpa using hh
          have HN2 := hid (HN.out.2.1 (.inl rfl) hh')
          rw [hh'] at hlook
          obtain ⟨w3, hst, hm3, hg3⟩ := tr_store (hmx.alloc (.cells #[.int .i64 a1, .int .i64 k1, .int .i64 b1] 65)) (Nat.lt_of_le_of_lt HNK.out (Nat.lt_of_lt_of_le HLT.out HLN.out)) hwf 1 by_
          have hb3 : Below w.heap.size w w3 := Below.grown ((HB.out.alloc HB.out.size _).alloc (Nat.le_trans HB.out.size (by simp)) _) hg3 (Nat.le_trans HB.out.size (by simp; omega)) (fun k h => by simp at h; omega)
          have HM3 := hid hm3
          have HB3 := hid hb3
          clear hm hb hT ht hmx hwf hh hh' hm3 hb3 hg3
          go_wp2
          try rw [hwk]
          exact ⟨⟨k + 1, n + 1, _, HLT.out, next_num k, Nat.succ_le_succ HNK.out, HM3.out, HN2.out, HB3.out⟩, less_step HLT.out⟩
      · by_cases h2 : kd = 2
        · subst h2
          clear h1
          have hmx := hm.alloc (.cells #[.int .i64 at_, .int .i64 2, .int .i64 by_] 65)
          have hlook := tr_look hmx ht hwf
          by_cases hh : Maps.has T (.int .i64 at_) = true
          · have HN1 := hid (HN.out.1 (.inr rfl) hh)
            rw [hh] at hlook
            clear hm hb hT ht hmx hwf hh
            go_wp2
            try rw [hwk]
            exact ⟨⟨k + 1, n, T, HLT.out, next_num k, Nat.le_succ_of_le HNK.out, (HM.out.alloc _).alloc _, HN1.out, ((HB.out.alloc HB.out.size _).alloc (Nat.le_trans HB.out.size (by simp)) _)⟩, less_step HLT.out⟩
          · have hh' : Maps.has T (.int .i64 at_) = false := by simpa using hh
            have HN2 := hid (HN.out.2.1 (.inr rfl) hh')
            rw [hh'] at hlook
            obtain ⟨w3, hst, hm3, hg3⟩ := tr_store (hmx.alloc (.cells #[.int .i64 a1, .int .i64 k1, .int .i64 b1] 65)) (Nat.lt_of_le_of_lt HNK.out (Nat.lt_of_lt_of_le HLT.out HLN.out)) hwf 2 by_
            have hb3 : Below w.heap.size w w3 := Below.grown ((HB.out.alloc HB.out.size _).alloc (Nat.le_trans HB.out.size (by simp)) _) hg3 (Nat.le_trans HB.out.size (by simp; omega)) (fun k h => by simp at h; omega)
            have HM3 := hid hm3
            have HB3 := hid hb3
            clear hm hb hT ht hmx hwf hh hh' hm3 hb3 hg3
            go_wp2
            try rw [hwk]
            exact ⟨⟨k + 1, n + 1, _, HLT.out, next_num k, Nat.succ_le_succ HNK.out, HM3.out, HN2.out, HB3.out⟩, less_step HLT.out⟩
        · have HN3 := hid (HN.out.2.2 h1 h2)
          have n1 : (kd != 1) = true := by simp [h1]
          have n2 : (kd != 2) = true := by simp [h2]
          clear hm hb hT ht h1 h2 hwf
          go_wp2
          try rw [hwk]
          exact ⟨⟨k + 1, n, T, HLT.out, next_num k, Nat.le_succ_of_le HNK.out, HM.out.alloc _, HN3.out, HBX.out _⟩, less_step HLT.out⟩
    · have hend : ¬ (k : Int) < (l.length : Int) := by omega
      have HM := hid (⟨n, T, hm, by rw [List.take_of_length_le (by omega)] at hT; exact hT⟩ : ∃ n T, wr.ownsMap Tryz.prog 3 trElem w.heap.size n T ∧ TIs T l)
      have HB := hid hb
      clear hm hT hb hnk hk hlt
      go_wp2
      go_ret
      exact ⟨rfl, HM.out, HB.out⟩

set_option maxRecDepth 100000 in
set_option maxHeartbeats 600000 in
theorem empty_x {B : Nat} {Bs : Int} {sa : Option Addr} {ca : Nat} {l : List TrA} (hl : TrsAt w sa l) (hlen : l.length ≤ 1099511627776) :
    Calls Tryz.prog 27 #[.agg #[.int .i64 B, .int .i64 Bs, .slice sa l.length ca]] w fun e w' => ∃ p mf mt T, e = .returned (ptr p) ∧ Rep w' w.heap.size p mf mt (.newT B Bs T) ∧ TIs T l ∧ Below w.heap.size w w' := by
  have hmm := @run_makeMap Tryz.prog
  have HL := hid (fun (W : World) (hb : Below w.heap.size w W) => byCall_x (ca := ca) (hl.below hb) hlen)
  have HX : Hid (Below w.heap.size w (w.alloc (.cells #[.int .i64 B, .int .i64 Bs, .slice sa l.length ca] 29))) := hid ((Below.refl _ w).alloc (Nat.le_refl _) _)
  have HY : Hid (∀ o, Below w.heap.size w (((w.alloc (.cells #[.int .i64 B, .int .i64 Bs, .slice sa l.length ca] 29)).alloc o).drew)) := hid fun o => (((Below.refl _ w).alloc (Nat.le_refl _) _).alloc (by simp) _).drew
  have HB3 : Hid (∀ W w2 : World, Below W.heap.size W w2 → W.cell? ⟨w.heap.size, 0, none⟩ = some (.int .i64 B) → W.cell? ⟨w.heap.size, 1, none⟩ = some (.int .i64 Bs) → W.cell? ⟨w.heap.size, 2, none⟩ = some (.slice sa l.length ca) →
      w2.cell? ⟨w.heap.size, 0, none⟩ = some (.int .i64 B) ∧ w2.cell? ⟨w.heap.size, 1, none⟩ = some (.int .i64 Bs) ∧ w2.cell? ⟨w.heap.size, 2, none⟩ = some (.slice sa l.length ca)) := hid fun W w2 hb h0 h1 h2 =>
    ⟨(hb.cell (World.block_lt_of_cell? W _ h0)).trans h0, (hb.cell (World.block_lt_of_cell? W _ h1)).trans h1, (hb.cell (World.block_lt_of_cell? W _ h2)).trans h2⟩
  clear hl hlen
  go_enter Tryz.func27, Tryz.ntmps27
  go_wp2
  go_region_held3 (fun V => V.cell? ⟨w.heap.size, 0, none⟩ = some (.int .i64 B) ∧ V.cell? ⟨w.heap.size, 1, none⟩ = some (.int .i64 Bs) ∧ V.cell? ⟨w.heap.size, 2, none⟩ = some (.slice sa l.length ca)) (go_keep)
    (first
      | (go_at_call 63; refine (HL.out _ HX.out.drew).mono ?_; rintro e w2 ⟨rfl, hT2, hb2⟩; have z2 := HB3.out _ w2 hb2 (by simp) (by simp) (by simp); have HT2 := hid hT2; have HBB := hid (HX.out.drew.trans (hb2.mono (by first | (simp; done) | (simp; omega)))); clear hT2 hb2)
      | (go_at_call 63; refine (HL.out _ (HY.out _)).mono ?_; rintro e w2 ⟨rfl, hT2, hb2⟩; have z2 := HB3.out _ w2 hb2 (by simp) (by simp) (by simp); have HT2 := hid hT2; have HBB := hid ((HY.out _).trans (hb2.mono (by first | (simp; done) | (simp; omega)))); have HOB := hid hb2; clear hT2 hb2))
  · go_wp2
    go_ret
    obtain ⟨n, T, hT, hA⟩ := HT2.out
    have hT' : w2.ownsMap Tryz.prog 3 trElem (w.heap.size + 1 + 1) n T := by simpa using hT
    have hz := hT'.lt
    have hm : w2.heap[w.heap.size + 1]? = some (.map #[] 0) := (HOB.out.block _ (by simp)).trans (heap_two w (.cells #[.int .i64 B, .int .i64 Bs, .slice sa l.length ca] 29) (.map #[] 0)).2
    refine ⟨w2.heap.size, w.heap.size + 1, w.heap.size + 1 + 1, T, rfl, new_repT (heap_alloc_new w2 _) (empty_map _ _ _ _ ((Below.heap_alloc w2 _ _ (by omega)).trans hm)) ⟨n, hT'.alloc _⟩ (by omega) (by omega) (by omega) ⟨by omega, by omega, by omega⟩, hA, HBB.out.alloc HBB.out.size _⟩
  · go_wp2
    go_ret
    obtain ⟨n, T, hT, hA⟩ := HT2.out
    have hT' : w2.ownsMap Tryz.prog 3 trElem (w.heap.size + 1) n T := by simpa using hT
    have hz := hT'.lt
    have h2 := heap_two w2 (.map #[] 0) (.cells #[.int .i64 B, .int .i64 Bs, .bool true, .map (some w2.heap.size), .map (some (w.heap.size + 1)), .int .i64 0, .int .i64 0, .int .i64 0, .int .i64 0, .int .i64 0, .int .i64 0, .int .i64 0] 91)
    refine ⟨w2.heap.size + 1, w2.heap.size, w.heap.size + 1, T, rfl, new_repT h2.2 (empty_map _ _ _ _ h2.1) ⟨n, (hT'.alloc _).alloc _⟩ (by omega) (by omega) (by omega) ⟨by omega, by omega, by omega⟩, hA, (HBB.out.alloc HBB.out.size _).alloc (Nat.le_trans HBB.out.size (by simp)) _⟩

end

end Go.Proofs.YtcpncfngadablaaGreatDoor
