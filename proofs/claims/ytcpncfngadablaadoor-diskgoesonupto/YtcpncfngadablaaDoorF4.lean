import Derived.Test.YtcpncfngadablaaDoorF3
namespace Go.Proofs.YtcpncfngadablaaDoor
open Go.RowKit Go.Deep

section
variable {w w' : World} {E : Nat → Addr} {lo p mf mt : Nat} {D : DiskC}

/-- the twelve cells of what a step tells. -/
def ToldA.row (T : ToldA) (x : Option Addr) (y : Nat) (m : Option Addr) (l : Nat) : Array Value := #[.int .i64 T.e, .int .i64 T.n, .bool T.shut, .slice x T.data.length y, .slice m T.names.length l, .int .i64 T.c.calls, .int .i64 T.c.reads, .int .i64 T.c.appends, .int .i64 T.c.faults, .int .i64 T.c.full, .int .i64 T.c.used, .int .i64 T.c.most]

theorem ToldAt.form {base : Nat} {T : ToldA} {v : Value} (h : ToldAt w base T v) : ∃ x y m l, v = .agg (T.row x y m l) := by
  obtain ⟨dv, nv, rfl, hd, hn⟩ := h
  obtain ⟨x, y, rfl, _, _⟩ := shows_own hd
  obtain ⟨m, l, rfl, _, _⟩ := owns_form hn
  exact ⟨x, y, m, l, rfl⟩

theorem ToldAt.touch {base : Nat} {T : ToldA} {v : Value} {F : List Nat} (h : ToldAt w base T v) (ht : Touch F w w') (hF : ∀ b ∈ F, b < base) : ToldAt w' base T v := by
  obtain ⟨dv, nv, rfl, hd, hn⟩ := h
  refine ⟨dv, nv, rfl, owns_touch hd ht fun x hx hxF => ?_, owns_touch hn ht fun x hx hxF => ?_⟩
  · have h1 := (hd.lt x (by simp [hx])).1
    have h2 := hF x hxF
    omega
  · have h1 := (hn.lt x (by simp [hx])).1
    have h2 := hF x hxF
    omega

theorem Runs.tells {B t : Nat} (h : Runs w lo p mf mt B t D) (V : Env w lo E) (ht : t + 1 ≤ 1099511627776) (o : OpA) {sa : Option Addr} {n c : Nat} (hd : Shows w sa n c o.data) (hn : n ≤ 1073741824) :
    Calls Tryd.prog 7 #[ptr p, opV o.kind o.name o.N o.bit sa n c, .int .i64 B] w fun e w' => ∃ (T : ToldA) (x : Option Addr) (y : Nat) (m : Option Addr) (l : Nat) (D' : DiskC), T = (stepA o D.pub).1 ∧ e = .returned (.tuple #[.agg #[.int .i64 T.e, .int .i64 T.n, .bool T.shut, .slice x T.data.length y, .slice m T.names.length l, .int .i64 T.c.calls, .int .i64 T.c.reads, .int .i64 T.c.appends, .int .i64 T.c.faults, .int .i64 T.c.full, .int .i64 T.c.used, .int .i64 T.c.most], .bool true]) ∧
      ToldAt w' w.heap.size T (.agg (T.row x y m l)) ∧ Runs w' lo p mf mt B (t + 1) D' ∧ D'.pub = (stepA o D.pub).2 ∧ Touch (D.foot p mf mt) w w' ∧ ∀ b ∈ D'.foot p mf mt, b ∈ D.foot p mf mt ∨ w.heap.size ≤ b := by
  refine (h.program V ht o hd hn).mono ?_
  rintro e w' ⟨v, D', rfl, hT, hr, hp, ht, hf⟩
  obtain ⟨x, y, m, l, rfl⟩ := hT.form
  exact ⟨_, x, y, m, l, D', rfl, rfl, hT, hr, hp, ht, hf⟩
end
end Go.Proofs.YtcpncfngadablaaDoor
