import Derived.Test.YtbanhpohnhjciaaH3
namespace Go.Proofs.Ytbanhpohnhjciaa
open Go.RowKit Go.MuLone

section
variable {w : World} {base b : Nat} {r : Rf} {ks : List Kid}

set_option maxRecDepth 100000 in
set_option maxHeartbeats 400000 in
theorem newR_refused {n : Int} (hn : n < 0) (w : World) : Calls Try.prog 29 #[.int .i64 n] w fun e w' => e = .returned (.tuple #[.pointer none, .int .i64 1]) ∧ w' = w := by
  go_enter Try.func29, Try.ntmps29
  go_wp2
  go_ret2
  exact ⟨rfl, rfl⟩

set_option maxRecDepth 100000 in
set_option maxHeartbeats 400000 in
theorem newR_any {n : Int} (hn : 0 ≤ n) (w : World) : Calls Try.prog 29 #[.int .i64 n] w fun e w' => e = .returned (.tuple #[ptr w.heap.size, .int .i64 0]) ∧ w'.heap[w.heap.size]? = some (.cells (Rf.row ⟨n, 0, 0, true, false, .slice none 0 0⟩) 69 (0, 0)) ∧ Touch [] w w' := by
  go_enter Try.func29, Try.ntmps29
  go_wp2
  go_ret2
  exact ⟨rfl, heap_new w _, (Touch.refl [] w).alloc _⟩

/-- what Close answers. -/
def closeR (r : Rf) (ks : List Kid) : Int := if r.opn = false then 6 else if r.part = false then 1 else if r.hand > 0 then 20 else if ks.any (fun k => k.opn) then 20 else 0

def Rf.shut (r : Rf) (ks : List Kid) : Rf := if closeR r ks = 0 then { r with opn := false } else r
theorem shut_no {x : Int} (h : closeR r ks = x) (hx : x ≠ 0) : r.shut ks = r := by simp [Rf.shut, h, hx]

set_option maxRecDepth 100000 in
set_option maxHeartbeats 800000 in
theorem closeR_any (R : RefAt w base b r ks) (ne : ∀ k ∈ ks, k.b ≠ b) (pne : r.pv.ownBlock ≠ some b) :
    Calls Try.prog 33 #[ptr b] w fun e w' => e = .returned (.int .i64 (closeR r ks)) ∧ RefAt w' base b (r.shut ks) ks ∧ Touch [b] w w' := by
  obtain ⟨sd, cd, hpv, hcd, hsd⟩ := owns_form R.own
  have c := fun i => cell_row R.row i
  have f := fun i => unfrozen_row R.row i
  simp only [Rf.row, hpv] at c
  have hfew := R.few
  have HR := hid R
  have HN := hid (And.intro ne pne)
  have HPV := hid hpv
  have HSD := hid hsd
  clear R hpv hsd hcd ne pne
  by_cases hop : r.opn = false
  · have HE := hid (show closeR r ks = 6 by simp [closeR, hop])
    go_enter Try.func33, Try.ntmps33
    go_wp2
    go_ret
    rw [HE.out, shut_no HE.out (by decide)]
    exact ⟨rfl, HR.out, Touch.refl _ _⟩
  · have hop' : r.opn = true := by simpa using hop
    clear hop
    by_cases hpt : r.part = false
    · have HE := hid (show closeR r ks = 1 by simp [closeR, hop', hpt])
      go_enter Try.func33, Try.ntmps33
      go_wp2
      go_ret
      rw [HE.out, shut_no HE.out (by decide)]
      exact ⟨rfl, HR.out, Touch.refl _ _⟩
    · have hpt' : r.part = true := by simpa using hpt
      clear hpt
      by_cases hh : r.hand > 0
      · have HE := hid (show closeR r ks = 20 by simp [closeR, hop', hpt', hh])
        go_enter Try.func33, Try.ntmps33
        go_wp2
        go_ret
        rw [HE.out, shut_no HE.out (by decide)]
        exact ⟨rfl, HR.out, Touch.refl _ _⟩
      · have HE := hid (show closeR r ks = if ks.any (fun k => k.opn) then 20 else 0 by simp only [closeR, hop', hpt', hh]; simp)
        go_enter Try.func33, Try.ntmps33
        go_wp2
        go_loopw [3] (fun i wr => ∃ k : Nat, k ≤ ks.length ∧ i = .int .i64 k ∧ (∀ x ∈ ks.take k, x.opn = false) ∧ wr = w) (fun i _ => ks.length - (intOf i).toNat)
        case atStart => exact ⟨0, Nat.zero_le _, rfl, by simp, rfl⟩
        case round =>
          obtain ⟨k, hk, rfl, hall, hwr⟩ := hrel
          subst hwr
          by_cases hlt : k < ks.length
          · obtain ⟨g, rfl⟩ := HSD.out (by omega)
            have hm : ks[k] ∈ ks := List.getElem_mem hlt
            have c1 := HR.out.open_ _ hm
            have c0 := HR.out.own.cells (g := g) (by rw [HPV.out]; rfl) k (ptr ks[k].b) (by simp [hlt])
            have ea : (⟨g, 0, none⟩ : Addr).add k = ⟨g, k, none⟩ := by unfold Addr.add; split <;> simp_all
            rw [ea] at c0
            obtain ⟨q, hq⟩ : ∃ q, q = ks[k].b := ⟨_, rfl⟩
            rw [← hq] at c0 c1
            have i0 : (0 : Int) ≤ (k : Int) := by omega
            have i1 : (k : Int) < (ks.length : Int) := by omega
            have hwk : wrap64 ((k : Int) + 1) = (k : Int) + 1 := IntWalk.wrap64_in _ ⟨by omega, by omega⟩
            have HALL := hid hall
            clear hq ea hall
            cases ho : ks[k].opn with
            | true =>
              rw [ho] at c1
              have HA : Hid (closeR r ks = 20) := hid (by rw [HE.out, if_pos (List.any_eq_true.2 ⟨_, hm, ho⟩)])
              clear ho hm HPV HSD
              go_wp2
              go_ret
              rw [HA.out, shut_no HA.out (by decide)]
              exact ⟨rfl, HR.out, Touch.refl _ _⟩
            | false =>
              rw [ho] at c1
              have HB : Hid (∀ x ∈ ks.take (k + 1), x.opn = false) := hid (fun x hx => by
                rw [List.take_succ_eq_append_getElem hlt] at hx
                rcases List.mem_append.1 hx with h | h
                · exact HALL.out x h
                · simp at h
                  subst h
                  exact ho)
              clear ho hm HPV HSD HE HR HN
              go_wp2
              go_roundw
              case rel =>
                refine ⟨k + 1, by omega, by go_num, HB.out, ?_⟩
                first | rfl | trivial
              case measure => simp [intOf]; omega
          · obtain rfl : k = ks.length := by omega
            rw [List.take_length] at hall
            have HA : Hid (closeR r ks = 0) := hid (by
              rw [HE.out, if_neg]
              intro h
              obtain ⟨x, hx, hxo⟩ := List.any_eq_true.1 h
              simp [hall x hx] at hxo)
            clear hall
            go_wp2
            go_ret
            rw [HA.out, show r.shut ks = { r with opn := false } by simp [Rf.shut, HA.out]]
            have t := (Touch.refl [b] wr).setCell (p := ⟨b, 3, none⟩) (by simp) (.bool false)
            refine ⟨rfl, ?_, t⟩
            exact HR.out.turn HN.out.1 HN.out.2 t (heap_setCell_row HR.out.row 3 _) rfl HR.out.hand HR.out.top
end
end Go.Proofs.Ytbanhpohnhjciaa
