import Derived.Test.YtcpncfngadablaaDoorA6
namespace Go.Proofs.YtcpncfngadablaaDoor
open Go.RowKit Go.Deep

/-- a file put in at its place by name. -/
def insE (e : Ent) : List Ent → List Ent
  | [] => [e]
  | y :: r => if (Lit.string e.name).before (.string y.name) then e :: y :: r else y :: insE e r

theorem insE_key (e : Ent) : ∀ l : List Ent, DataW.insert e.key (l.map Ent.key) = (insE e l).map Ent.key
  | [] => rfl
  | y :: r => by
    simp only [List.map_cons, DataW.insert, insE]
    have h : (e.key.1.before y.key.1) = (Lit.string e.name).before (.string y.name) := rfl
    rw [h]
    split
    · rfl
    · simp [insE_key e r]
theorem insE_perm (e : Ent) : ∀ l : List Ent, (insE e l).Perm (e :: l)
  | [] => .refl _
  | y :: r => by
    unfold insE
    split
    · exact .refl _
    · exact ((insE_perm e r).cons y).trans (.swap _ _ _)
theorem put_map {e : Ent} {l : List Ent} (h : findE l e.name = none) : (mapOf l).put (.string e.name) (.lit (.int .i64 e.lay.fb)) = mapOf (insE e l) := by
  unfold mapOf DataW.put
  have hf : (l.map Ent.key).filter (fun p => !p.1.sameKey (.string e.name)) = l.map Ent.key := by
    rw [List.filter_eq_self]
    intro x hx
    obtain ⟨y, hy, rfl⟩ := List.mem_map.1 hx
    have := List.find?_eq_none.1 h y hy
    simp at this
    simp [Ent.key, Lit.sameKey, this]
  simp only [hf]
  exact congrArg _ (insE_key e l)

def dropE (k : List UInt8) (l : List Ent) : List Ent := l.filter fun e => !decide (e.name = k)
theorem del_map (l : List Ent) (k : List UInt8) : (mapOf l).del (.string k) = mapOf (dropE k l) := by
  unfold mapOf dropE
  show DataW.map ((l.map Ent.key).filter fun p => !p.1.sameKey (.string k)) = _
  congr 1
  rw [List.filter_map]
  congr 1
  apply List.filter_congr
  intro e _
  simp only [Function.comp, Ent.key, Lit.sameKey]
  by_cases h : e.name = k <;> simp [h]

section
variable {w w' : World} {E : Nat → Addr} {lo p mf mt : Nat} {D : DiskC}

theorem foot_eq (D : DiskC) (p mf mt : Nat) : D.foot p mf mt = p :: mf :: mt :: D.ents.flatMap fun e => e.lay.foot := rfl

/-- the blocks of the files are none of the disk's own three. -/
theorem Rep.ent_ne (R : Rep w lo p mf mt D) {e : Ent} (he : e ∈ D.ents) {b : Nat} (hb : b ∈ e.lay.foot) : b ≠ p ∧ b ≠ mf ∧ b ≠ mt ∧ b < w.heap.size ∧ lo ≤ b := by
  have hm' : b ∈ D.ents.flatMap fun e => e.lay.foot := List.mem_flatMap.2 ⟨e, he, hb⟩
  have ha := R.apart
  simp only [DiskC.foot, List.nodup_cons, List.mem_cons, not_or] at ha
  have hmem : b ∈ D.foot p mf mt := by simp only [DiskC.foot, List.mem_cons]; exact .inr (.inr (.inr hm'))
  refine ⟨?_, ?_, ?_, R.lt b hmem, R.base b hmem⟩ <;> intro h <;> subst h
  · exact ha.1.2.2 hm'
  · exact ha.2.1.2 hm'
  · exact ha.2.2.1 hm'

/-- A new, empty file. -/
theorem Rep.insert (R : Rep w lo p mf mt D) {s : ByteArray} {fb : Nat} (hs : s.size ≤ 32) (hfind : findE D.ents (nm s) = none) (ht : Touch [mf] w w') (hfb : w.heap.size ≤ fb) (hlo : lo ≤ fb)
    (hrow : w'.heap[fb]? = some (.cells #[.int .i64 0, .slice none 0 0] 97 (0, 0))) (hmap : w'.ownsMap Tryd.prog 9 ptrElem mf (D.ents.length + 1) ((mapOf D.ents).put (.string (nm s)) (.lit (.int .i64 fb)))) :
    Rep w' lo p mf mt { D with ents := insE ⟨nm s, ⟨false, []⟩, ⟨fb, .slice none 0 0, []⟩⟩ D.ents } := by
  obtain ⟨n, hT⟩ := R.troubles
  have hne := R.p_ne
  have hperm := insE_perm ⟨nm s, ⟨false, []⟩, ⟨fb, .slice none 0 0, []⟩⟩ D.ents
  have hfoot : (DiskC.foot { D with ents := insE ⟨nm s, ⟨false, []⟩, ⟨fb, .slice none 0 0, []⟩⟩ D.ents } p mf mt).Perm (fb :: D.foot p mf mt) := by
    simp only [DiskC.foot]
    have h1 := hperm.flatMap_right fun e : Ent => e.lay.foot
    have h2 : (({ name := nm s, file := ⟨false, []⟩, lay := ⟨fb, .slice none 0 0, []⟩ } : Ent) :: D.ents).flatMap (fun e => e.lay.foot) = fb :: D.ents.flatMap fun e => e.lay.foot := by
      simp [Lay.foot, Value.ownBlock]
    rw [h2] at h1
    refine (((h1.cons mt).cons mf).cons p).trans ?_
    refine .trans (((List.Perm.swap fb mt _).cons mf).cons p) ?_
    exact .trans ((List.Perm.swap fb mf _).cons p) (.swap fb p _)
  have hold : ∀ b ∈ D.foot p mf mt, b ≠ mf → w'.heap[b]? = w.heap[b]? := fun b hb h => ht.block b (R.lt b hb) (by simp [h])
  refine ⟨(hold p (by simp [DiskC.foot]) hne.2.1).trans R.row, ?_, ⟨n, ownsMap_kept hT (hold mt (by simp [DiskC.foot]) hne.2.2.symm)⟩, ?_, ?_, ?_, ?_⟩
  · have hp := put_map (e := ⟨nm s, ⟨false, []⟩, ⟨fb, .slice none 0 0, []⟩⟩) hfind
    rw [hp] at hmap
    have hl : (insE ⟨nm s, ⟨false, []⟩, ⟨fb, .slice none 0 0, []⟩⟩ D.ents).length = D.ents.length + 1 := by rw [hperm.length_eq]; rfl
    show w'.ownsMap Tryd.prog 9 ptrElem mf (insE _ D.ents).length _
    rw [hl]
    exact hmap
  · intro e he
    rcases List.mem_cons.1 (hperm.mem_iff.1 he) with rfl | he
    · exact ⟨hrow, World.ownsRow_nil _ _ _ _, fun i b bl hb _ => by simp at hb⟩
    · exact (R.each e he).kept fun b hb => by
        have := R.ent_ne he hb
        exact ht.block b this.2.2.2.1 (by simp [this.2.1])
  · rw [hfoot.nodup_iff, List.nodup_cons]
    exact ⟨fun h => by have := R.lt fb h; omega, R.apart⟩
  · intro b hb
    rcases List.mem_cons.1 (hfoot.mem_iff.1 hb) with rfl | hb
    · exact hlo
    · exact R.base b hb
  · intro e he
    rcases List.mem_cons.1 (hperm.mem_iff.1 he) with rfl | he
    · show (nm s).length ≤ 32
      rw [Array.length_toList]
      exact hs
    · exact R.names e he
end
end Go.Proofs.YtcpncfngadablaaDoor
