/-
  Close, of both sides.
-/
import Derived.Test.YtbanhpohnhjciaaI3
namespace Go.Proofs.Ytbanhpohnhjciaa
open Go.RowKit Go.MuLone

section
variable {w w' : World} {base n : Nat} {f : Nat → Nd} {i p : Nat}

theorem Mem.doS2 (M : Mem w base n f) (hi : i < n) (hp : p < n) (hip : i ≠ p) {s' t' : St} (h1 : PurseAt w' (f i).pb s') (h2 : PurseAt w' (f p).pb t') (hl : LockAt w' (f i).s.lb 0)
    (e1 : s'.lb = (f i).s.lb) (e2 : t'.lb = (f p).s.lb) (el : (f i).s.lb = (f p).s.lb) (t : Touch [(f i).pb, (f p).pb, (f i).s.lb] w w') : Mem w' base n (updS (updS f i s') p t') := by
  have pl : ∀ j k, j < n → k < n → (f j).pb ≠ (f k).s.lb := fun j k hj hk => ne_type (M.pur j hj) (M.lock k hk) (by decide)
  have es : ∀ j, (updS (updS f i s') p t' j).s = if j = p then t' else if j = i then s' else (f j).s := fun j => by
    split
    · next h => subst h; rw [updS_at]
    · next h =>
      rw [updS_ne _ p t' j h]
      split
      · next h => subst h; rw [updS_at]
      · next h => rw [updS_ne f i s' j h]
  have elb : ∀ j, (if j = p then t' else if j = i then s' else (f j).s).lb = (f j).s.lb := fun j => by
    split
    · next h => subst h; exact e2
    · split
      · next h => subst h; exact e1
      · rfl
  refine ⟨fun j hj => ?_, fun j hj => ?_, fun j hj => ?_, fun j hj => ?_, fun j k hj hk h => ?_, fun j k hj hk h => ?_, fun j k hj hk h => ?_, fun j hj => ?_⟩
  · rw [updS_pb, updS_pb, es]
    by_cases ep : j = p
    · subst ep; rw [if_pos rfl]; exact h2
    · rw [if_neg ep]
      by_cases ei : j = i
      · subst ei; rw [if_pos rfl]; exact h1
      · rw [if_neg ei]
        exact (M.pur j hj).touch t (by simp; exact ⟨fun h => ei (M.pinj j i hj hi h), fun h => ep (M.pinj j p hj hp h), pl j i hj hi⟩)
  · rw [es, elb]
    by_cases ej : (f j).s.lb = (f i).s.lb
    · rw [ej]; exact hl
    · exact (M.lock j hj).touch t (by simp; exact ⟨fun h => pl i j hi hj h.symm, fun h => pl p j hp hj h.symm, ej⟩)
  · rw [updS_rb, updS_rb, updS_r, updS_r]
    exact (t.block _ (lt_of_block (M.row j hj)) (by simp; exact ⟨ne_type (M.row j hj) (M.pur i hi) (by decide), ne_type (M.row j hj) (M.pur p hp) (by decide), ne_type (M.row j hj) (M.lock i hi) (by decide)⟩)).trans (M.row j hj)
  · simp only [updS_r, updS_kids, updS_rb]
    refine owns_touch (M.own j hj) t fun x hx => ?_
    simp
    exact ⟨fun h => M.own_ne hj (M.pur i hi) (by decide) (h ▸ hx), fun h => M.own_ne hj (M.pur p hp) (by decide) (h ▸ hx), fun h => M.own_ne hj (M.lock i hi) (by decide) (h ▸ hx)⟩
  · rw [updS_pb, updS_pb, updS_pb, updS_pb] at h; exact M.pinj j k hj hk h
  · rw [updS_rb, updS_rb, updS_rb, updS_rb] at h; exact M.rinj j k hj hk h
  · rw [updS_r, updS_r, updS_r, updS_r]; exact M.oinj j k hj hk h
  · rw [updS_pb, updS_pb, updS_rb, updS_rb, es, elb]; exact M.plo j hj

theorem close_zero {s : St} (he : closeE s = 0) : s.closed = false ∧ isNil s.whole = false ∧ ¬ s.hand > 0 ∧ ¬ s.parts > 0 := by
  unfold closeE at he
  split at he
  · omega
  · next h1 =>
    split at he
    · omega
    · next h2 =>
      split at he
      · omega
      · next h3 => exact ⟨by simpa using h1, by simpa using h2, fun h => h3 (.inl h), fun h => h3 (.inr h)⟩

/-- The whole of a part that may be closed. -/
theorem Laws.whole (L : Laws n f) (hi : i < n) (he : closeE (f i).s = 0) : (f i).r.opn = true ∧ ∃ p, p < n ∧ p ≠ i ∧ i ∈ (f p).kids ∧ (f i).s.whole = ptr (f p).pb ∧ (f i).s.lb = (f p).s.lb := by
  obtain ⟨h1, h2, h3, h4⟩ := close_zero he
  have ho : (f i).r.opn = true := by have := L.cl i hi; rw [h1] at this; simpa using this.symm
  have hpt : (f i).r.part = true := by have := L.nilw i hi ho; rw [h2] at this; simpa using this.symm
  obtain ⟨p, hp, him, hw, hl⟩ := L.par i hi ho hpt
  exact ⟨ho, p, hp, by have := L.kid p hp i him; omega, him, hw, hl⟩

theorem Laws.lentLe (L : Laws n f) (hi : i < n) (hp : p < n) (him : i ∈ (f p).kids) (ho : (f i).r.opn = true) : (f i).s.limit ≤ (f p).s.lent ∧ 1 ≤ (f p).s.parts := by
  have hk : (⟨(f i).rb, (f i).r.opn, (f i).r.limit⟩ : Kid) ∈ kl f (f p).kids := List.mem_map.2 ⟨i, him, rfl⟩
  refine ⟨?_, ?_⟩
  · rw [L.lim i hi, L.lent p hp]
    exact kids_mem (fun k hk => by
      obtain ⟨j, hj, rfl⟩ := List.mem_map.1 hk
      exact L.ref.pos j (L.kid p hp j hj).2) hk ho
  · rw [L.parts p hp]
    exact opens_mem hk ho

theorem Mem.closeP (M : Mem w base n f) (L : Laws n f) (hi : i < n) (hp : p < n) (hpi : p ≠ i) (him : i ∈ (f p).kids) (hw : (f i).s.whole = ptr (f p).pb) (hl : (f i).s.lb = (f p).s.lb) (he : closeE (f i).s = 0) (ho : (f i).r.opn = true) :
    Calls Try.prog 17 #[ptr (f i).pb] w fun e w' => e = .returned (.int .i64 0) ∧ Mem w' base n (updS (updS f i (f i).s.shut) p ((f p).s.back (f i).s.limit)) ∧ Touch [(f i).pb, (f p).pb, (f i).s.lb] w w' := by
  have ll := L.lentLe hi hp him ho
  have g := L.good p hp
  have g1 := g.hand
  have g2 := g.out
  have g3 := g.limit
  have gi := L.ref.pos i hi
  rw [← L.lim i hi] at gi
  refine (close_any (M.pur i hi) (M.pur p hp) (M.lock i hi) (M.pl hi) (by rw [hl]; exact M.pl hp) (fun h => hpi (M.pinj i p hi hp h).symm) hw he gi ll.1 (by omega) ll.2 g.partsLe).mono ?_
  rintro _ w' ⟨h1, h2, h3, h4, h5⟩
  exact ⟨h1, M.doS2 hi hp (Ne.symm hpi) h2 h3 h4 rfl rfl hl h5, h5⟩

theorem Laws.close (L : Laws n f) (hi : i < n) (hp : p < n) (hpi : p ≠ i) (him : i ∈ (f p).kids) (he : closeE (f i).s = 0) (ho : (f i).r.opn = true) :
    Laws n (updR (updS (updS f i (f i).s.shut) p ((f p).s.back (f i).s.limit)) i { (f i).r with opn := false }) := by
  obtain ⟨c1, c2, c3, c4⟩ := close_zero he
  have ll := L.lentLe hi hp him ho
  obtain ⟨f', hf'⟩ : ∃ f', f' = updR (updS (updS f i (f i).s.shut) p ((f p).s.back (f i).s.limit)) i { (f i).r with opn := false } := ⟨_, rfl⟩
  rw [← hf']
  have es : ∀ j, (f' j).s = if j = p then (f p).s.back (f i).s.limit else if j = i then (f i).s.shut else (f j).s := fun j => by
    rw [hf', updR_s]
    split
    · next h => subst h; rw [updS_at]
    · next h =>
      rw [updS_ne _ p _ j h]
      split
      · next h => subst h; rw [updS_at]
      · next h => rw [updS_ne f i _ j h]
  have er : ∀ j, (f' j).r = if j = i then { (f i).r with opn := false } else (f j).r := fun j => by
    rw [hf']
    split
    · next h => subst h; rw [updR_at]
    · next h => rw [updR_ne _ i _ j h, updS_r, updS_r]
  have ek : ∀ j, (f' j).kids = (f j).kids := fun j => by rw [hf', updR_kids, updS_kids, updS_kids]
  have ep : ∀ j, (f' j).pb = (f j).pb := fun j => by rw [hf', updR_pb, updS_pb, updS_pb]
  have hu : ∀ l, kl (updS (updS f i (f i).s.shut) p ((f p).s.back (f i).s.limit)) l = kl f l := fun l => by rw [kl_updS, kl_updS]
  have out : ∀ j, j < n → j ≠ p → kl f' (f j).kids = kl f (f j).kids := fun j hj hjp => by
    rw [hf', kl_shut_out _ (fun h => hjp (L.one j p i hj hp h him)), hu]
  have inn := kl_shut_in (updS (updS f i (f i).s.shut) p ((f p).s.back (f i).s.limit)) (i := i) (r' := { (f i).r with opn := false }) (by rw [updS_r, updS_r]; exact ho) rfl (L.nodup p hp) him
  rw [hu, updS_r, updS_r, ← hf'] at inn
  have elb : ∀ j, (if j = p then (f p).s.back (f i).s.limit else if j = i then (f i).s.shut else (f j).s).lb = (f j).s.lb := fun j => by
    split
    · next h => subst h; rfl
    · split
      · next h => subst h; rfl
      · rfl
  have gp := L.good p hp
  refine ⟨fun j hj => ?_, fun j hj => ?_, fun j hj => ?_, fun j hj => ?_, fun j hj => ?_, fun j hj => ?_, fun j hj => ?_, fun j hj => ?_, fun j hj => ?_, fun j hj => ?_, fun j hj => ?_, fun j hj => ?_, ?_, fun j hj => ?_⟩
  · rw [es]
    split
    · have a1 := gp.hand
      have a2 := gp.lent
      have a3 := gp.out
      have a5 := gp.parts
      have a6 := gp.partsLe
      have a7 := gp.peak
      have a8 := gp.peakLe
      have a9 := L.ref.pos i hi
      rw [← L.lim i hi] at a9
      have b1 := ll.1
      have b2 := ll.2
      exact ⟨a1, by show 0 ≤ (f p).s.lent - (f i).s.limit; omega, by show (f p).s.hand + ((f p).s.lent - (f i).s.limit) ≤ (f p).s.limit; omega, gp.limit, by show 0 ≤ (f p).s.parts - 1; omega, by show (f p).s.parts - 1 ≤ _; omega, by show (f p).s.hand + ((f p).s.lent - (f i).s.limit) ≤ (f p).s.peak; omega, a8⟩
    · split
      · have g := L.good i hi
        exact ⟨g.hand, g.lent, g.out, g.limit, g.parts, g.partsLe, g.peak, g.peakLe⟩
      · exact L.good j hj
  · rw [es, er]
    split
    · next h => subst h; rw [if_neg hpi]; exact L.lim j hj
    · split
      · exact L.lim i hi
      · exact L.lim j hj
  · rw [es, er]
    split
    · next h => subst h; rw [if_neg hpi]; exact L.hand j hj
    · split
      · exact L.hand i hi
      · exact L.hand j hj
  · rw [es, er]
    split
    · next h => subst h; rw [if_neg hpi]; exact L.peak j hj
    · split
      · exact L.peak i hi
      · exact L.peak j hj
  · rw [es, er]
    split
    · next h => subst h; rw [if_neg hpi]; exact L.cl j hj
    · split
      · rfl
      · exact L.cl j hj
  · rw [es, ek]
    by_cases h : j = p
    · subst h
      rw [if_pos rfl, inn.1, ← L.lent j hj, ← L.lim i hi]
    · rw [if_neg h, out j hj h]
      split
      · next h => subst h; exact L.lent j hj
      · exact L.lent j hj
  · rw [es, ek]
    by_cases h : j = p
    · subst h
      rw [if_pos rfl, inn.2, ← L.parts j hj]
    · rw [if_neg h, out j hj h]
      split
      · next h => subst h; exact L.parts j hj
      · exact L.parts j hj
  · rw [es]
    split
    · exact L.form p hp
    · split
      · exact .inl rfl
      · exact L.form j hj
  · rw [es, er]
    by_cases hj2 : j = i
    · subst hj2
      rw [if_pos rfl]
      intro h
      cases h
    · rw [if_neg hj2]
      split
      · next h => subst h; exact L.nilw j hj
      · exact L.nilw j hj
  · by_cases hj2 : j = i
    · rw [er, if_pos hj2]
      intro h
      cases h
    · rw [es, er, if_neg hj2, if_neg hj2]
      intro a b
      obtain ⟨q, hq, h3, h4, h5⟩ := L.par j hj a b
      refine ⟨q, hq, by rw [ek]; exact h3, ?_, ?_⟩
      · rw [ep]
        split
        · next h => subst h; exact h4
        · exact h4
      · rw [es, elb]
        split
        · next h => subst h; exact h5
        · exact h5
  · rw [ek]; exact L.kid j hj
  · rw [ek]; exact L.nodup j hj
  · intro a b j ha hb; rw [ek, ek]; exact L.one a b j ha hb
  · rw [ek]; exact L.few j hj

theorem Mem.closeNo (M : Mem w base n f) (L : Laws n f) (hi : i < n) (he : closeE (f i).s ≠ 0) :
    Calls Try.prog 17 #[ptr (f i).pb] w fun e w' => e = .returned (.int .i64 (closeE (f i).s)) ∧ Mem w' base n f ∧ Touch [(f i).pb, (f i).s.lb] w w' :=
  (close_refused (M.pur i hi) (M.lock i hi) (M.pl hi) (L.form i hi) he).mono fun _ _ ⟨h1, h2, h3, h4⟩ => ⟨h1, M.askS hi h2 h3 h4, h4⟩

theorem updR_same (f : Nat → Nd) (i : Nat) : updR f i (f i).r = f := by
  funext j
  unfold updR upd
  split
  · next h => subst h; rfl
  · rfl

theorem Mem.closeR (M : Mem w base n f) (L : RLaws n f) (hn : n ≤ 9223372036854775807) (hi : i < n) :
    Calls Try.prog 33 #[ptr (f i).rb] w fun e w' => e = .returned (.int .i64 (Go.Proofs.Ytbanhpohnhjciaa.closeR (f i).r (kl f (f i).kids))) ∧ Mem w' base n (updR f i ((f i).r.shut (kl f (f i).kids))) ∧ Touch [(f i).rb] w w' :=
  (closeR_any (M.ref L hi hn) (M.ne L hi) (M.pne hi)).mono fun _ _ ⟨he, hr, ht⟩ => ⟨he, M.doR hi hr.row (by unfold Rf.shut; split <;> rfl) ht, ht⟩
end

end Go.Proofs.Ytbanhpohnhjciaa
