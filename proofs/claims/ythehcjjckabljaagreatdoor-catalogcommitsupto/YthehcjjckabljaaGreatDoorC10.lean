import Derived.Deep.RegionHeld3
import Derived.Deep.RegionWith
import Derived.Shelf.SlIter.Nil
import Derived.Shelf.SortM.Plain
import Derived.Shelf.SortM.SortNone
import Derived.Ground.GgzProg
import Derived.Ground.SlgmProg
import Derived.Deep.LoopGhost
import Derived.Test.YthehcjjckabljaaGreatDoorC09
namespace Go.Proofs.YthehcjjckabljaaGreatDoor
open Go.RowKit Go.Deep
set_option maxRecDepth 100000
set_option linter.unusedSimpArgs false
set_option linter.unusedVariables false
structure Tabs (w:World):Prop where
 tz:Nm.Tz w
 syn:∃ t x,w.cell? ⟨13,0,none⟩ = some (.iface t x)
 rng:∃ t x,w.cell? ⟨14,0,none⟩ = some (.iface t x)
theorem Tabs.touch {w w':World} {G:List Nat} (h:Tabs w) (t:Tc G w w') (hG:∀ y ∈ G,17 ≤ y):Tabs w':=by
 obtain ⟨⟨h1,h2⟩,⟨v3,u3,h3⟩,⟨v4,u4,h4⟩⟩:=h
 have n:∀ k,k < 17 → k ∉ G:=fun k hk hx=>by have:=hG k hx; omega
 exact ⟨⟨(t.cell (p:=⟨16,15,none⟩) h2 (n 16 (by omega))).trans h1,Nat.lt_of_lt_of_le h2 t.size⟩,⟨v3,u3,(t.cell (p:=⟨13,0,none⟩) (by show 13 < w.heap.size; omega) (n 13 (by omega))).trans h3⟩,⟨v4,u4,(t.cell (p:=⟨14,0,none⟩) (by show 14 < w.heap.size; omega) (n 14 (by omega))).trans h4⟩⟩
theorem Tabs.quiet {w w':World} (h:Tabs w) (t:Tc [] w w'):Tabs w':=h.touch t (by simp)
set_option maxHeartbeats 1000000 in
theorem syntax_any (fn s:ByteArray) (hs:s.size ≤ 1048576) {w:World} (h:Tabs w) :
  Calls Tryz.prog 234 #[.string fn,.string s] w fun e w'=>∃ a,e = .returned (.pointer (some a)) ∧ Tc [] w w':=by
 obtain ⟨v3,u3,h3⟩:=h.syn
 have h17:=h.tz.2
 have HC:=hid (fun W=>clone_any s W (by omega))
 clear h
 go_enter Tryz.func234,Tryz.ntmps234
 go_wp2_with fail
 go_region_with (go_at_call 177; refine (HC.out _).mono ?_; rintro e w1 ⟨rfl,hb⟩; have h3b:=(hb.cell (p:=⟨13,0,none⟩) (by simp; omega)).trans h3)
 all_goals
  go_wp2_with fail
  go_ret
  exact ⟨_,rfl,(((Tc.refl [] w).drew.trans (Tc.of_below (F:=[]) hb (Nat.le_refl _)) (by simp)).alloc _)⟩
set_option maxHeartbeats 1000000 in
theorem range_any (fn s:ByteArray) (hs:s.size ≤ 1048576) {w:World} (h:Tabs w) :
  Calls Tryz.prog 235 #[.string fn,.string s] w fun e w'=>∃ a,e = .returned (.pointer (some a)) ∧ Tc [] w w':=by
 obtain ⟨v3,u3,h3⟩:=h.rng
 have h17:=h.tz.2
 have HC:=hid (fun W=>clone_any s W (by omega))
 clear h
 go_enter Tryz.func235,Tryz.ntmps235
 go_wp2_with fail
 go_region_with (go_at_call 177; refine (HC.out _).mono ?_; rintro e w1 ⟨rfl,hb⟩; have h3b:=(hb.cell (p:=⟨14,0,none⟩) (by simp; omega)).trans h3)
 all_goals
  go_wp2_with fail
  go_ret
  exact ⟨_,rfl,(((Tc.refl [] w).drew.trans (Tc.of_below (F:=[]) hb (Nat.le_refl _)) (by simp)).alloc _)⟩
theorem ieq12 (W:World):(binOp BinOp.eql 86 (.iface 312 (.int .i64 1)) (.iface 312 (.int .i64 2))).run Tryz.prog W = .ok (.bool false) W:=by kernel_rfl
theorem ieq11 (W:World):(binOp BinOp.eql 86 (.iface 312 (.int .i64 1)) (.iface 312 (.int .i64 1))).run Tryz.prog W = .ok (.bool true) W:=by kernel_rfl
theorem ieq22 (W:World):(binOp BinOp.eql 86 (.iface 312 (.int .i64 2)) (.iface 312 (.int .i64 2))).run Tryz.prog W = .ok (.bool true) W:=by kernel_rfl
theorem toErr_any (fn s:ByteArray) (hs:s.size ≤ 1048576) {w:World} (h:Tabs w) {k:Nat} (hk:k = 1 ∨ k = 2) :
  Calls Tryz.prog 195 #[.string fn,.string s,.int .i64 16,.int .i64 64,.iface 312 (.int .i64 (k:Int))] w fun e w'=>∃ t x,e = .returned (.iface t x) ∧ Tc [] w w':=by
 have HS:=hid (syntax_any fn s hs h)
 have HR:=hid (range_any fn s hs h)
 have i12:=ieq12
 have i11:=ieq11
 have i22:=ieq22
 clear h
 rcases hk with rfl | rfl
 ·go_enter Tryz.func195,Tryz.ntmps195
  go_wp2_with (go_at_call 235; refine HR.out.mono ?_; rintro e w1 ⟨a,rfl,ht⟩; have HT:=hid ht; clear ht)
  go_ret
  exact ⟨_,_,rfl,HT.out⟩
 ·go_enter Tryz.func195,Tryz.ntmps195
  go_wp2_with (go_at_call 234; refine HS.out.mono ?_; rintro e w1 ⟨a,rfl,ht⟩; have HT:=hid ht; clear ht)
  go_ret
  exact ⟨_,_,rfl,HT.out⟩
theorem parH_code {l:List UInt8}:∀ {n:Nat},n < 18446744073709551616 → (parH n l).1 < 18446744073709551616 ∧ ((parH n l).2 = 0 ∨ (parH n l).2 = 1 ∨ (parH n l).2 = 2):=by
 induction l with
 | nil=>intro n hn; exact ⟨hn,.inl rfl⟩
 | cons c r ih =>
  intro n hn
  by_cases h1:16 ≤ digH c.toNat
  ·rw [parH_dig h1]; exact ⟨by decide,.inr (.inr rfl)⟩
  ·by_cases h2:1152921504606846976 ≤ n
   ·rw [parH_big h1 h2]; exact ⟨by decide,.inr (.inl rfl)⟩
   ·rw [parH_on h1 h2]; exact ih (by omega)
theorem parU_code (l:List UInt8):(parU l).1 < 18446744073709551616 ∧ ((parU l).2 = 0 ∨ (parU l).2 = 1 ∨ (parU l).2 = 2):=by
 unfold parU
 split
 ·exact ⟨by decide,.inr (.inr rfl)⟩
 ·exact parH_code (by decide)
set_option maxHeartbeats 1000000 in
theorem parse_any (l:List UInt8) (hl:l.length ≤ 1048576) {w:World} (h:Tabs w) :
  Calls Tryz.prog 152 #[.string ⟨l.toArray⟩,.int .i64 16,.int .i64 64] w fun e w'=>∃ ev,e = .returned (.tuple #[.int .u64 ((parU l).1:Int),ev]) ∧ ((parU l).2 = 0 → ev = .nilIface) ∧ ((parU l).2 ≠ 0 → ∃ t x,ev = .iface t x) ∧ Tc [] w w':=by
 have HP:=hid (parse_in l hl w)
 have hc:=(parU_code l).2
 have hsz:(⟨l.toArray⟩:ByteArray).size = l.length:=by simp [ByteArray.size]
 have HE:=hid (fun W (ht:Tc [] w W) k (hk:k = 1 ∨ k = 2)=>toErr_any ⟨#[80,97,114,115,101,85,105,110,116]⟩ ⟨l.toArray⟩ (by rw [hsz]; exact hl) (h.quiet ht) hk)
 generalize (parU l).1 = v at *
 generalize (parU l).2 = k at *
 clear h hsz hl
 rcases hc with rfl | hk
 ·go_enter Tryz.func152,Tryz.ntmps152
  go_wp2_with (go_at_call 194; refine HP.out.mono ?_; rintro e w1 ⟨rfl,ht⟩; have HT:=hid ht; clear ht; rw [show errI 0 = .nilIface from rfl])
  exact bodyPost_ret (v:=.tuple #[.int .u64 (v:Int),.nilIface]) (by simp [results,Tryz.results152,go_sem]) rfl ⟨_,rfl,fun _=>rfl,fun h=>absurd rfl h,HT.out⟩
 ·have hne:¬ k = 0:=by omega
  have herr:errI k = .iface 312 (.int .i64 (k:Int)):=by unfold errI; rw [if_neg hne]
  rw [herr] at HP
  have HK:=hid hk
  have HNE:=hid hne
  clear hk hne herr
  go_enter Tryz.func152,Tryz.ntmps152
  go_wp2_with (first
   |(go_at_call 194; refine HP.out.mono ?_; rintro e w1 ⟨rfl,ht⟩; have HT:=hid ht; clear ht)
   |(go_at_call 195; refine (HE.out _ HT.out k HK.out).mono ?_; rintro e w2 ⟨t,x,rfl,ht2⟩; have HT2:=hid ht2; clear ht2))
  exact bodyPost_ret (v:=.tuple #[.int .u64 (v:Int),.iface t x]) (by simp [results,Tryz.results152,go_sem]) rfl ⟨_,rfl,fun h=>absurd h HNE.out,fun _=>⟨t,x,rfl⟩,HT.out.trans HT2.out (by simp)⟩
def trimC (s:List UInt8):List UInt8:=if s.take 4 = [99,97,116,45] then s.drop 4 else s
theorem hasPre_any (s:List UInt8) (hs:s.length ≤ 1048576) (w:World) :
  Calls Tryz.prog 184 #[.string ⟨s.toArray⟩,.string ⟨#[99,97,116,45]⟩] w fun e w'=>e = .returned (.bool (decide (s.take 4 = [99,97,116,45]))) ∧ w' = w:=by
 have hsz:(⟨s.toArray⟩:ByteArray).size = s.length:=by simp [ByteArray.size]
 by_cases h4:s.length < 4
 ·have hd:decide (s.take 4 = [99,97,116,45]) = false:=by
   rw [decide_eq_false_iff_not]
   intro h
   have:=congrArg List.length h
   simp at this
   omega
  rw [hd]
  have h4i:¬ (4:Int) ≤ (s.length:Int):=by omega
  go_enter Tryz.func184,Tryz.ntmps184
  go_wp2
  go_ret
  exact ⟨rfl,rfl⟩
 ·have h4i:(4:Int) ≤ (s.length:Int):=by omega
  go_enter Tryz.func184,Tryz.ntmps184
  go_wp2
  go_ret
  refine ⟨?_,rfl⟩
  have e:((⟨s.toArray⟩:ByteArray).extract 0 4).toList = s.take 4:=by
   rw [Lib.extract_toList]
   simp
  show Ending.returned (.bool (((⟨s.toArray⟩:ByteArray).extract 0 4).toList == [99,97,116,45])) = _
  rw [e]
  congr 2
  rw [Bool.eq_iff_iff]; simp
theorem trim_any (s:List UInt8) (hs:s.length ≤ 1048576) (w:World) :
  Calls Tryz.prog 153 #[.string ⟨s.toArray⟩,.string ⟨#[99,97,116,45]⟩] w fun e w'=>e = .returned (.string ⟨(trimC s).toArray⟩) ∧ w' = w:=by
 have HI:Hid (Calls Tryz.prog 196 #[.string ⟨s.toArray⟩,.string ⟨#[99,97,116,45]⟩] w fun e w'=>e = .returned (.string ⟨(trimC s).toArray⟩) ∧ w' = w):=by
  have HP:=hid (hasPre_any s hs w)
  by_cases hp:s.take 4 = [99,97,116,45]
  ·have hl:4 ≤ s.length:=by have:=congrArg List.length hp; simp at this; omega
   have hli:(4:Int) ≤ (s.length:Int):=by omega
   have ht:trimC s = s.drop 4:=by unfold trimC; rw [if_pos hp]
   rw [show decide (s.take 4 = [99,97,116,45]) = true by simpa using hp] at HP
   rw [ht]
   clear hp ht
   go_enter Tryz.func196,Tryz.ntmps196
   go_wp2_with (go_at_call 184; refine HP.out.mono ?_; rintro e w1 ⟨rfl,hh⟩; have hh:=hh.symm; subst hh)
   go_ret
   refine ⟨?_,rfl⟩
   show Ending.returned (.string ((⟨s.toArray⟩:ByteArray).extract 4 s.length)) = _
   rw [Lib.extract_eq]
   have:(List.drop 4 s).take (s.length - 4) = List.drop 4 s:=List.take_of_length_le (by rw [List.length_drop]; exact Nat.le_refl _)
   simp [this]
  ·have ht:trimC s = s:=by unfold trimC; rw [if_neg hp]
   rw [show decide (s.take 4 = [99,97,116,45]) = false by simpa using hp] at HP
   rw [ht]
   clear hp ht
   go_enter Tryz.func196,Tryz.ntmps196
   go_wp2_with (go_at_call 184; refine HP.out.mono ?_; rintro e w1 ⟨rfl,hh⟩; have hh:=hh.symm; subst hh)
   go_ret
   exact ⟨rfl,rfl⟩
 go_enter Tryz.func153,Tryz.ntmps153
 go_wp2_with (go_at_call 196; refine HI.out.mono ?_; rintro e w1 ⟨rfl,hh⟩; have hh:=hh.symm; subst hh)
 go_ret
 exact ⟨rfl,rfl⟩
def genN (s:List UInt8):Nat:=if (parU (trimC s)).2 = 0 ∧ [99,97,116,45] ++ PureHex.hexW 16 (parU (trimC s)).1 = s then (parU (trimC s)).1 else 0
set_option maxHeartbeats 1000000 in
theorem generation_any (s:List UInt8) (hs:s.length ≤ 1048576) {w:World} (h:Tabs w) :
  Calls Tryz.prog 106 #[.string ⟨s.toArray⟩] w fun e w'=>e = .returned (.int .u64 (genN s:Int)) ∧ Tc [] w w':=by
 have HT:=hid (fun W=>trim_any s hs W)
 have hl:(trimC s).length ≤ 1048576:=by unfold trimC; split <;> (try rw [List.length_drop]) <;> omega
 have HP:=hid (parse_any (trimC s) hl h)
 have hlt:=(parU_code (trimC s)).1
 have HN:=hid (fun W (ht:Tc [] w W)=>Nm.name_any (parU (trimC s)).1 hlt W (h.quiet ht).tz)
 have hgen:genN s = if (parU (trimC s)).2 = 0 ∧ [99,97,116,45] ++ PureHex.hexW 16 (parU (trimC s)).1 = s then (parU (trimC s)).1 else 0:=rfl
 have HG:=hid hgen
 clear hgen h hl
 generalize (parU (trimC s)).1 = v at *
 generalize (parU (trimC s)).2 = k at *
 generalize trimC s = t at *
 by_cases hk:k = 0
 ·by_cases hn:[99,97,116,45] ++ PureHex.hexW 16 v = s
  ·have HR:=hid (show genN s = v by rw [HG.out,if_pos ⟨hk,hn⟩])
   rw [hn] at HN
   go_enter Tryz.func106,Tryz.ntmps106
   go_wp2_with (first
    |(go_at_call 153; refine (HT.out _).mono ?_; rintro e w1 ⟨rfl,hh⟩; have hh:=hh.symm; subst hh)
    |(go_at_call 152; refine HP.out.mono ?_; rintro e w2 ⟨ev,rfl,h1,h2,ht⟩; have h1:=h1 hk; subst h1; have HT2:=hid ht; clear h2 ht)
    |(go_at_call 22; refine (HN.out _ HT2.out).mono ?_; rintro e w3 ⟨rfl,hb⟩; have HB:=hid hb; clear hb))
   go_ret
   exact ⟨by rw [HR.out]; rfl,HT2.out.trans (Tc.of_below (F:=[]) HB.out (Nat.le_refl _)) (by simp)⟩
  ·have HR:=hid (show genN s = 0 by rw [HG.out,if_neg (fun h=>hn h.2)])
   obtain ⟨u,hu⟩:∃ u,u = [99,97,116,45] ++ PureHex.hexW 16 v:=⟨_,rfl⟩
   rw [← hu] at HN hn
   have hb1:(u == s) = false:=by simpa using hn
   have hb2:(u != s) = true:=by simpa using hn
   clear hu
   go_enter Tryz.func106,Tryz.ntmps106
   go_wp2_with (first
    |(go_at_call 153; refine (HT.out _).mono ?_; rintro e w1 ⟨rfl,hh⟩; have hh:=hh.symm; subst hh)
    |(go_at_call 152; refine HP.out.mono ?_; rintro e w2 ⟨ev,rfl,h1,h2,ht⟩; have h1:=h1 hk; subst h1; have HT2:=hid ht; clear h2 ht)
    |(go_at_call 22; refine (HN.out _ HT2.out).mono ?_; rintro e w3 ⟨rfl,hb⟩; have HB:=hid hb; clear hb))
   go_ret
   exact ⟨by rw [HR.out]; rfl,HT2.out.trans (Tc.of_below (F:=[]) HB.out (Nat.le_refl _)) (by simp)⟩
 ·have HR:=hid (show genN s = 0 by rw [HG.out,if_neg (fun h=>hk h.1)])
  have HK:=hid hk
  go_enter Tryz.func106,Tryz.ntmps106
  go_wp2_with (first
   |(go_at_call 153; refine (HT.out _).mono ?_; rintro e w1 ⟨rfl,hh⟩; have hh:=hh.symm; subst hh)
   |(go_at_call 152; refine HP.out.mono ?_; rintro e w2 ⟨ev,rfl,h1,h2,ht⟩; obtain ⟨tt,xx,h2⟩:=h2 HK.out; subst h2; have HT2:=hid ht; clear h1 ht))
  go_ret
  exact ⟨by rw [HR.out]; rfl,HT2.out⟩
end Go.Proofs.YthehcjjckabljaaGreatDoor
namespace Go.Proofs
open Go.RowKit Go.Maps Go.Sort Go.Shelf
-- maps.Keys[map[string]*strata/disk.file,string,*strata/disk.file] (function 50; its iterator 68) · slices.Sorted[string] (49) · slices.Sort[[]string,string] (67) · the map's type 69,the keys' 9
def Tryz.keys111_ren:Go.Shelf.Ren:=⟨fun | 7=>111 | 10=>162 | n=>n,fun | 23=>97 | 26=>9 | 3=>128 | 28=>167 | 0=>0 | 27=>166 | 33=>220 | 4=>4 | n=>n,fun | n=>n⟩
theorem Tryz.keys111:Go.Proofs.SlLaysZ.n7 Tryz.prog Tryz.keys111_ren:={
 mixed:=by kernel_rfl
 f7:=⟨Tryz.f111.name,by decide,Tryz.func111.trans (congrArg some (by kernel_rfl))⟩
 f10:=⟨Tryz.f162.name,by decide,Tryz.func162.trans (congrArg some (by kernel_rfl))⟩
 t0:=Tryz.underlying0
 a0:=Tryz.isAgg0
 z0:=Tryz.sizeOf0
 v0:=Tryz.zeroValue0
 t4:=Tryz.underlying4
 a4:=Tryz.isAgg4
 z4:=Tryz.sizeOf4
 v4:=Tryz.zeroValue4
 t23:=Tryz.underlying97
 a23:=Tryz.isAgg97
 z23:=Tryz.sizeOf97
 v23:=Tryz.zeroValue97
 t26:=Tryz.underlying9
 a26:=Tryz.isAgg9
 z26:=Tryz.sizeOf9
 v26:=Tryz.zeroValue9
 t27:=Tryz.underlying166
 a27:=Tryz.isAgg166
 z27:=Tryz.sizeOf166
 v27:=Tryz.zeroValue166
 t28:=Tryz.underlying167
 a28:=Tryz.isAgg167
 z28:=Tryz.sizeOf167
 v28:=Tryz.zeroValue167
 t33:=Tryz.underlying220
 a33:=Tryz.isAgg220
 z33:=Tryz.sizeOf220
 v33:=Tryz.zeroValue220 }
def Tryz.sorted97_ren:Go.Shelf.Ren:=⟨fun | 6=>97 | 8=>142 | 9=>143 | 11=>187 | 13=>189 | 12=>188 | 23=>223 | 24=>208 | 14=>214 | 15=>215 | 16=>216 | 17=>217 | 18=>218 | 19=>219 | 20=>220 | 21=>221 | 22=>222 | 25=>241 | 26=>242 | 27=>243 | 28=>244 | 29=>245 | 30=>246 | 31=>256 | n=>n,fun | 26=>9 | 28=>167 | 24=>51 | 0=>0 | 3=>3 | 37=>205 | 48=>146 | 50=>24 | 4=>4 | 40=>301 | 39=>300 | 45=>305 | 5=>5 | 9=>9 | 51=>317 | 55=>321 | 57=>336 | 58=>337 | 33=>220 | n=>n,fun | n=>n⟩
theorem Tryz.sorted97:Go.Proofs.SlLaysZ.n6 Tryz.prog Tryz.sorted97_ren:={
 mixed:=by kernel_rfl
 f6:=⟨Tryz.f97.name,by decide,Tryz.func97.trans (congrArg some (by kernel_rfl))⟩
 f8:=⟨Tryz.f142.name,by decide,Tryz.func142.trans (congrArg some (by kernel_rfl))⟩
 f11:=⟨Tryz.f187.name,by decide,Tryz.func187.trans (congrArg some (by kernel_rfl))⟩
 t0:=Tryz.underlying0
 a0:=Tryz.isAgg0
 z0:=Tryz.sizeOf0
 v0:=Tryz.zeroValue0
 t24:=Tryz.underlying51
 a24:=Tryz.isAgg51
 z24:=Tryz.sizeOf51
 v24:=Tryz.zeroValue51
 t26:=Tryz.underlying9
 a26:=Tryz.isAgg9
 z26:=Tryz.sizeOf9
 v26:=Tryz.zeroValue9
 t28:=Tryz.underlying167
 a28:=Tryz.isAgg167
 z28:=Tryz.sizeOf167
 v28:=Tryz.zeroValue167
 i26:=by kernel_rfl }
def Tryz.sort143_ren:Go.Shelf.Ren:=⟨fun | 6=>143 | 8=>189 | 9=>188 | 19=>223 | 20=>208 | 21=>214 | 22=>215 | 23=>216 | 24=>217 | 25=>218 | 26=>219 | 27=>220 | 28=>221 | 29=>222 | 36=>241 | 31=>242 | 32=>243 | 37=>244 | 38=>245 | 39=>246 | 41=>256 | n=>n,fun | 27=>51 | 29=>9 | 3=>3 | 32=>205 | 26=>51 | 0=>0 | 44=>146 | 46=>24 | 4=>4 | 36=>301 | 35=>300 | 41=>305 | 5=>5 | 9=>9 | 53=>317 | 57=>321 | 63=>336 | 64=>337 | n=>n,fun | n=>n⟩
theorem Tryz.sort143:Go.Proofs.SlLaysM.n6 Tryz.prog Tryz.sort143_ren:={
 mixed:=by kernel_rfl
 f6:=⟨Tryz.f143.name,by decide,Tryz.func143.trans (congrArg some (by kernel_rfl))⟩
 f8:=Tryz.func189.trans (congrArg some (by kernel_rfl))
 f9:=⟨Tryz.f188.name,by decide,Tryz.func188.trans (congrArg some (by kernel_rfl))⟩
 f19:=Tryz.func223.trans (congrArg some (by kernel_rfl))
 f20:=Tryz.func208.trans (congrArg some (by kernel_rfl))
 f21:=⟨Tryz.f214.name,by decide,Tryz.func214.trans (congrArg some (by kernel_rfl))⟩
 f22:=⟨Tryz.f215.name,by decide,Tryz.func215.trans (congrArg some (by kernel_rfl))⟩
 f23:=⟨Tryz.f216.name,by decide,Tryz.func216.trans (congrArg some (by kernel_rfl))⟩
 f24:=⟨Tryz.f217.name,by decide,Tryz.func217.trans (congrArg some (by kernel_rfl))⟩
 f25:=⟨Tryz.f218.name,by decide,Tryz.func218.trans (congrArg some (by kernel_rfl))⟩
 f26:=⟨Tryz.f219.name,by decide,Tryz.func219.trans (congrArg some (by kernel_rfl))⟩
 f27:=⟨Tryz.f220.name,by decide,Tryz.func220.trans (congrArg some (by kernel_rfl))⟩
 f28:=⟨Tryz.f221.name,by decide,Tryz.func221.trans (congrArg some (by kernel_rfl))⟩
 f29:=⟨Tryz.f222.name,by decide,Tryz.func222.trans (congrArg some (by kernel_rfl))⟩
 f31:=Tryz.func242.trans (congrArg some (by kernel_rfl))
 f32:=Tryz.func243.trans (congrArg some (by kernel_rfl))
 f36:=⟨Tryz.f241.name,by decide,Tryz.func241.trans (congrArg some (by kernel_rfl))⟩
 f37:=⟨Tryz.f244.name,by decide,Tryz.func244.trans (congrArg some (by kernel_rfl))⟩
 f38:=⟨Tryz.f245.name,by decide,Tryz.func245.trans (congrArg some (by kernel_rfl))⟩
 f39:=⟨Tryz.f246.name,by decide,Tryz.func246.trans (congrArg some (by kernel_rfl))⟩
 f41:=⟨Tryz.f256.name,by decide,Tryz.func256.trans (congrArg some (by kernel_rfl))⟩
 t0:=Tryz.underlying0
 a0:=Tryz.isAgg0
 z0:=Tryz.sizeOf0
 v0:=Tryz.zeroValue0
 t3:=Tryz.underlying3
 a3:=Tryz.isAgg3
 z3:=Tryz.sizeOf3
 v3:=Tryz.zeroValue3
 t4:=Tryz.underlying4
 a4:=Tryz.isAgg4
 z4:=Tryz.sizeOf4
 v4:=Tryz.zeroValue4
 t5:=Tryz.underlying5
 a5:=Tryz.isAgg5
 z5:=Tryz.sizeOf5
 v5:=Tryz.zeroValue5
 t9:=Tryz.underlying9
 a9:=Tryz.isAgg9
 z9:=Tryz.sizeOf9
 v9:=Tryz.zeroValue9
 t26:=Tryz.underlying51
 a26:=Tryz.isAgg51
 z26:=Tryz.sizeOf51
 v26:=Tryz.zeroValue51
 t27:=Tryz.underlying51
 a27:=Tryz.isAgg51
 z27:=Tryz.sizeOf51
 v27:=Tryz.zeroValue51
 t29:=Tryz.underlying9
 a29:=Tryz.isAgg9
 z29:=Tryz.sizeOf9
 v29:=Tryz.zeroValue9
 t32:=Tryz.underlying205
 a32:=Tryz.isAgg205
 z32:=Tryz.sizeOf205
 v32:=Tryz.zeroValue205
 t35:=Tryz.underlying300
 a35:=Tryz.isAgg300
 z35:=Tryz.sizeOf300
 v35:=Tryz.zeroValue300
 t36:=Tryz.underlying301
 a36:=Tryz.isAgg301
 z36:=Tryz.sizeOf301
 v36:=Tryz.zeroValue301
 t41:=Tryz.underlying305
 a41:=Tryz.isAgg305
 z41:=Tryz.sizeOf305
 v41:=Tryz.zeroValue305
 t44:=Tryz.underlying146
 a44:=Tryz.isAgg146
 z44:=Tryz.sizeOf146
 v44:=Tryz.zeroValue146
 t46:=Tryz.underlying24
 a46:=Tryz.isAgg24
 z46:=Tryz.sizeOf24
 v46:=Tryz.zeroValue24
 t53:=Tryz.underlying317
 a53:=Tryz.isAgg317
 z53:=Tryz.sizeOf317
 v53:=Tryz.zeroValue317
 t57:=Tryz.underlying321
 a57:=Tryz.isAgg321
 z57:=Tryz.sizeOf321
 v57:=Tryz.zeroValue321
 t63:=Tryz.underlying336
 a63:=Tryz.isAgg336
 z63:=Tryz.sizeOf336
 v63:=Tryz.zeroValue336
 t64:=Tryz.underlying337
 a64:=Tryz.isAgg337
 z64:=Tryz.sizeOf337
 v64:=Tryz.zeroValue337 }
theorem Tryz.sorts97 (m:Nat):AnyZ.SortsIn Tryz.prog Tryz.sorted97_ren Fence.wide m:=
 ⟨fun blk off cap ss W hH hblk hsz=>callsIn_wide.2 (AnyM.slices_Sort_string Tryz.sort143 blk off cap ss W hH hblk hsz),
  fun p cap W=>callsIn_wide.2 (AnyM.slices_Sort_string_none Tryz.sort143 p cap W)⟩
theorem Tryz.maps_Keys_111 (mb:Option Nat) (W:World):CallsIn Fence.wide 5 Tryz.prog 111 #[.map mb] W fun e w'=>e = .returned (.func (.func 162) #[] #[.pointer (some ⟨W.heap.size,0,none⟩)]) ∧ w' = W.alloc (.cells #[.map mb] 97):=
 AnyZ.keys_in Tryz.keys111 Fence.wide 5 trivial rfl mb W
set_option maxHeartbeats 1000000 in
theorem Tryz.slices_Sorted_keys_97_111 {H:Type} (b nn:Nat) (D0:DataW H) (R:Value → Option (DataW H × List MemPlace)) (w:World) (hown:w.ownsMap Tryz.prog 9 R b nn D0) (hmax:Maps.size D0 ≤ maxLen) (hbytes:Maps.size D0 * 16 ≤ 140737488355328) :
  CallsIn Fence.wide 5 Tryz.prog 97 #[.func (.func 162) #[] #[.pointer (some ⟨w.heap.size,0,none⟩)]] (w.alloc (.cells #[.map (some b)] 97)) fun e w'=>∃ (v:Value) (ss:List (List UInt8)),e = .returned v ∧ ss.Perm (strKeys D0) ∧
   w'.ownsRow (w.alloc (.cells #[.map (some b)] 97)).heap.size 9 1 v ss.length ((ss.mergeSort (fun x y=>decide (x ≤ y))).map encStr) ∧ (v = .slice none 0 0 ↔ ss = []) ∧ Below (w.alloc (.cells #[.map (some b)] 97)).heap.size (w.alloc (.cells #[.map (some b)] 97)) w':=by
 have hbl:=hown.lt
 have hseq:SeqGives Fence.wide 2 Tryz.prog 162 #[.pointer (some ⟨w.heap.size,0,none⟩)] encStr (fun ss=>ss.Perm (strKeys D0)) (Maps.size D0) (w.alloc (.cells #[.map (some b)] 97)):=
  AnyZ.keys_gives (ρ:=Tryz.keys111_ren) { Tryz.keys111 with } Fence.wide _ trivial rfl (by omega) w.heap.size b nn D0 _ (by simp) (by simp) (by
   obtain ⟨es,clock,hb,Ft,hs,hD⟩:=hown
   exact ⟨es,clock,(Below.heap_alloc _ _ b hbl).trans hb,Ft,hs,hD⟩)
 exact AnyZ.sorted_in Tryz.sorted97 Fence.wide 5 trivial trivial trivial trivial rfl (by omega) (Tryz.sorts97 _) (enters_of Tryz.func143 (by kernel_rfl) rfl) 162 #[.pointer (some ⟨w.heap.size,0,none⟩)] trivial (enters_of Tryz.func162 (by kernel_rfl) rfl) _ _ hmax hbytes _ hseq
def Tryz.keys98_ren:Go.Shelf.Ren:=⟨fun | 7=>98 | 10=>144 | n=>n,fun | 23=>89 | 26=>9 | 3=>104 | 28=>167 | 0=>0 | 27=>166 | 33=>220 | 4=>4 | n=>n,fun | n=>n⟩
theorem Tryz.keys98:Go.Proofs.SlLaysZ.n7 Tryz.prog Tryz.keys98_ren:={
 mixed:=by kernel_rfl
 f7:=⟨Tryz.f98.name,by decide,Tryz.func98.trans (congrArg some (by kernel_rfl))⟩
 f10:=⟨Tryz.f144.name,by decide,Tryz.func144.trans (congrArg some (by kernel_rfl))⟩
 t0:=Tryz.underlying0
 a0:=Tryz.isAgg0
 z0:=Tryz.sizeOf0
 v0:=Tryz.zeroValue0
 t4:=Tryz.underlying4
 a4:=Tryz.isAgg4
 z4:=Tryz.sizeOf4
 v4:=Tryz.zeroValue4
 t23:=Tryz.underlying89
 a23:=Tryz.isAgg89
 z23:=Tryz.sizeOf89
 v23:=Tryz.zeroValue89
 t26:=Tryz.underlying9
 a26:=Tryz.isAgg9
 z26:=Tryz.sizeOf9
 v26:=Tryz.zeroValue9
 t27:=Tryz.underlying166
 a27:=Tryz.isAgg166
 z27:=Tryz.sizeOf166
 v27:=Tryz.zeroValue166
 t28:=Tryz.underlying167
 a28:=Tryz.isAgg167
 z28:=Tryz.sizeOf167
 v28:=Tryz.zeroValue167
 t33:=Tryz.underlying220
 a33:=Tryz.isAgg220
 z33:=Tryz.sizeOf220
 v33:=Tryz.zeroValue220 }
theorem Tryz.maps_Keys_98 (mb:Option Nat) (W:World):CallsIn Fence.wide 5 Tryz.prog 98 #[.map mb] W fun e w'=>e = .returned (.func (.func 144) #[] #[.pointer (some ⟨W.heap.size,0,none⟩)]) ∧ w' = W.alloc (.cells #[.map mb] 89):=
 AnyZ.keys_in Tryz.keys98 Fence.wide 5 trivial rfl mb W
set_option maxHeartbeats 1000000 in
theorem Tryz.slices_Sorted_keys_97_98 {H:Type} (b nn:Nat) (D0:DataW H) (R:Value → Option (DataW H × List MemPlace)) (w:World) (hown:w.ownsMap Tryz.prog 9 R b nn D0) (hmax:Maps.size D0 ≤ maxLen) (hbytes:Maps.size D0 * 16 ≤ 140737488355328) :
  CallsIn Fence.wide 5 Tryz.prog 97 #[.func (.func 144) #[] #[.pointer (some ⟨w.heap.size,0,none⟩)]] (w.alloc (.cells #[.map (some b)] 89)) fun e w'=>∃ (v:Value) (ss:List (List UInt8)),e = .returned v ∧ ss.Perm (strKeys D0) ∧
   w'.ownsRow (w.alloc (.cells #[.map (some b)] 89)).heap.size 9 1 v ss.length ((ss.mergeSort (fun x y=>decide (x ≤ y))).map encStr) ∧ (v = .slice none 0 0 ↔ ss = []) ∧ Below (w.alloc (.cells #[.map (some b)] 89)).heap.size (w.alloc (.cells #[.map (some b)] 89)) w':=by
 have hbl:=hown.lt
 have hseq:SeqGives Fence.wide 2 Tryz.prog 144 #[.pointer (some ⟨w.heap.size,0,none⟩)] encStr (fun ss=>ss.Perm (strKeys D0)) (Maps.size D0) (w.alloc (.cells #[.map (some b)] 89)):=
  AnyZ.keys_gives (ρ:=Tryz.keys98_ren) { Tryz.keys98 with } Fence.wide _ trivial rfl (by omega) w.heap.size b nn D0 _ (by simp) (by simp) (by
   obtain ⟨es,clock,hb,Ft,hs,hD⟩:=hown
   exact ⟨es,clock,(Below.heap_alloc _ _ b hbl).trans hb,Ft,hs,hD⟩)
 exact AnyZ.sorted_in Tryz.sorted97 Fence.wide 5 trivial trivial trivial trivial rfl (by omega) (Tryz.sorts97 _) (enters_of Tryz.func143 (by kernel_rfl) rfl) 144 #[.pointer (some ⟨w.heap.size,0,none⟩)] trivial (enters_of Tryz.func144 (by kernel_rfl) rfl) _ _ hmax hbytes _ hseq
end Go.Proofs
namespace Go.Proofs.YthehcjjckabljaaGreatDoor
open Go.RowKit Go.Deep
theorem before_lt:∀ a b:List UInt8,bytesBefore a b = true → a < b
 | [],[],h=>by simp [bytesBefore] at h
 | [],_ :: _,_=>by simp
 | _ :: _,[],h=>by simp [bytesBefore] at h
 | a :: r,b :: s,h=>by
  simp only [bytesBefore,Bool.or_eq_true,decide_eq_true_eq,Bool.and_eq_true,beq_iff_eq] at h
  rw [List.cons_lt_cons_iff]
  rcases h with h | ⟨rfl,h⟩
  ·exact .inl h
  ·exact .inr ⟨rfl,before_lt r s h⟩
section
variable {w w':World} {E:Nat → Addr} {lo p mf mt:Nat} {D:DkC}
theorem Rep.rising (R:Rep w lo p mf mt D):D.ents.Pairwise fun a b=>bytesBefore a.name b.name = true:=by
 obtain ⟨es,clock,hb,F,hs,hD⟩:=R.files
 simp only [mapOf,DataW.map.injEq] at hD
 have hu:=R.uniq
 have hk:ChangeMaps.StrKeys (D.ents.map Ent.key):=fun x hx=>by
  obtain ⟨e,_,rfl⟩:=List.mem_map.1 hx
  exact ⟨_,rfl⟩
 have hpw:(D.ents.map Ent.key).Pairwise fun p q=>p.1 ≠ q.1:=by
  rw [List.pairwise_map]
  exact hu.imp fun h e=>h (by simpa [Ent.key] using e)
 have hperm:=WideShapes.sorted_perm (es.toList.map (WideElems.rg Tryz.prog 9 ptrElem))
 rw [← hD] at hperm
 have hk':=ChangeMaps.strKeys_perm hperm hk
 have hpw':=(hperm.pairwise_iff (fun h=>Ne.symm h)).1 hpw
 have h:=ChangeMaps.sorted_sorted _ hk' hpw'
 rw [← hD,List.pairwise_map] at h
 exact h
theorem Rep.names_sorted (R:Rep w lo p mf mt D) {ss:List (List UInt8)} (h:ss.Perm (strKeys (mapOf D.ents))):ss.mergeSort (fun x y=>decide (x ≤ y)) = D.ents.map Ent.name:=by
 have hk:strKeys (mapOf D.ents) = D.ents.map Ent.name:=by
  simp only [strKeys,mapOf,List.map_map]
  rfl
 rw [hk] at h
 have e1:=mergeSort_of_perm h
 have e2:(D.ents.map Ent.name).mergeSort (fun x y=>decide (x ≤ y)) = D.ents.map Ent.name:=by
  apply List.mergeSort_of_pairwise
  rw [List.pairwise_map]
  refine R.rising.imp fun h=>?_
  simp only [decide_eq_true_eq]
  exact List.le_of_lt (before_lt _ _ h)
 exact e1.trans e2
set_option maxHeartbeats 1000000 in
theorem rising_any (R:Rep w lo p mf mt D) (hS:D.ents.length ≤ 1099511627776) :
  Calls Tryz.prog 54 #[ptr p] w fun e w'=>∃ v,e = .returned v ∧ w'.ownsRow w.heap.size 9 1 v D.ents.length ((D.ents.map Ent.name).map encStr) ∧ (v = .slice none 0 0 ↔ D.ents = []) ∧ Below w.heap.size w w':=by
 have k3:=R.cell 3
 simp only [dRow] at k3
 have hsz:Maps.size (mapOf D.ents) = D.ents.length:=by simp [mapOf,Maps.size]
 have HK:=hid (fun W=>callsIn_wide.1 (Tryz.maps_Keys_111 (some mf) W))
 have HS:=hid (callsIn_wide.1 (Tryz.slices_Sorted_keys_97_111 mf D.ents.length (mapOf D.ents) ptrElem w R.files (by rw [hsz]; unfold maxLen; omega) (by rw [hsz]; omega)))
 have HR:=hid R
 clear hsz R
 go_enter Tryz.func54,Tryz.ntmps54
 go_wp2_with (first
  |(go_at_call 111; refine (HK.out _).mono ?_; rintro e w' ⟨rfl,rfl⟩)
  |(go_at_call 97; refine HS.out.mono ?_; rintro e w' ⟨v,ss,rfl,hP,hrow,hnil,hb⟩))
 go_ret
 have hn:=HR.out.names_sorted hP
 have hl:ss.length = D.ents.length:=by
  rw [hP.length_eq]
  simp [strKeys,mapOf]
 rw [hn,hl] at hrow
 refine ⟨v,rfl,⟨hrow.1,?_⟩,?_,((Below.refl _ w).alloc (Nat.le_refl _) _).trans (hb.mono (by simp))⟩
 ·rcases hrow.2 with h | ⟨g,cap,cur,h,hbg,r⟩
  ·exact .inl h
  ·exact .inr ⟨g,cap,cur,h,by simp at hbg; omega,r⟩
 ·rw [hnil]
  constructor
  ·intro h; subst h; exact List.eq_nil_of_length_eq_zero (by simpa using hl.symm)
  ·intro h; rw [h] at hl; exact List.eq_nil_of_length_eq_zero (by simpa using hl)
end
theorem wpList_append_fresh (w:World) {ops:Array Oper} {rest:List Oper} {o:Oper} {a:Act} {Q:Exit → Act → World → Prop} (hgd:o.guard = none) (s x:Operand)
  (hop:o.op = Op.call { callee:=Callee.builtin Builtin.append,args:=#[s,x],argTypes:=#[111,111] })
  (v:Value) (n:Nat) (xs:List Value) (ad:Addr) (u:Value) (hs:a.eval s = v) (hx:a.eval x = .slice (some ad) 1 1) (hown:w.ownsRow 0 118 1 v n xs) (hu:w.cell? ad = some u) (h1:u.oneCell' = true) (hn:n ≤ 1099511627776)
  (hK:∀ v' w',w'.ownsRow 0 118 1 v' (n + 1) (xs ++ [u]) → w.grownBy w' v.ownBlock → (v'.ownBlock = v.ownBlock ∨ v'.ownBlock = some w.heap.size) → wpList Tryz.prog ops Q rest (a.put o.dst v') w'):wpList Tryz.prog ops Q (o :: rest) a w:=by
 refine wpList_plain hgd fun K' hK'=>?_
 obtain ⟨v',w',hrun,r1,r2,r3,r4⟩:=run_append_fresh w o.type v n xs hown ad u hu h1 hn
 unfold Oper.wp
 simp [execOp,hop,resolve,invoke,builtin,hs,hx,hrun,Result.andThen]
 exact hK' _ _ (hK v' w' r1 r2 r3)
structure BkA (w:World) (B:Nat) (sv:Value) (bs:List Nat) (blocks:List (List UInt8)):Prop where
 own:w.ownsRow 0 118 1 sv blocks.length (bs.map fun b=>sliceV b B)
 bytes:∀ (i b:Nat) (bl:List UInt8),bs[i]? = some b → blocks[i]? = some bl → bl.length = B ∧ BytesAt w b bl
theorem BkA.len {w:World} {B:Nat} {sv:Value} {bs:List Nat} {blocks:List (List UInt8)} (h:BkA w B sv bs blocks):bs.length = blocks.length:=by simpa using h.own.1
theorem FileAt.blocksAt {w:World} {B:Nat} {L:Lay} {f:FlA} (h:FileAt w B L f):BkA w B L.sv L.bs f.blocks:=⟨h.own,h.bytes⟩
theorem BkA.at {w:World} {B:Nat} {sv:Value} {bs:List Nat} {blocks:List (List UInt8)} (h:BkA w B sv bs blocks) {i:Nat} (hi:i < blocks.length) :
  ∃ g cap b,sv = .slice (some ⟨g,0,none⟩) blocks.length cap ∧ w.cell? ⟨g,i,none⟩ = some (sliceV b B) ∧ blocks[i].length = B ∧ BytesAt w b blocks[i] ∧ bs[i]? = some b:=by
 have hlen:=h.len
 have hb:bs[i]? = some (bs[i]'(by omega)):=List.getElem?_eq_getElem (by omega)
 have hbl:=h.bytes i _ blocks[i] hb (List.getElem?_eq_getElem hi)
 rcases h.own.2 with ⟨_,h2⟩ | ⟨g,cap,cur,h1,_,hg,hc,_⟩
 ·omega
 ·refine ⟨g,cap,_,h1,?_,hbl.1,hbl.2,hb⟩
  have hc2:=h.own.cells (g:=g) (by rw [h1]; rfl) i (sliceV (bs[i]'(by omega)) B) (by simp [hb])
  have hadd:(⟨g,0,none⟩:Addr).add i = ⟨g,i,none⟩:=by unfold Addr.add; split <;> simp_all
  rw [hadd] at hc2
  exact hc2
def FreshB (n:Nat) (sv:Value) (bs:List Nat):Prop:=(∀ x,sv.ownBlock = some x → n ≤ x) ∧ (∀ b ∈ bs,n ≤ b) ∧ (sv.ownBlock.toList ++ bs).Nodup
theorem BkA.lt {w:World} {B:Nat} {sv:Value} {bs:List Nat} {blocks:List (List UInt8)} (h:BkA w B sv bs blocks):(∀ x,sv.ownBlock = some x → x < w.heap.size) ∧ ∀ b ∈ bs,b < w.heap.size:=by
 refine ⟨fun x hx=>(h.own.lt x hx).2,fun b hb=>?_⟩
 obtain ⟨i,hi,rfl⟩:=List.getElem_of_mem hb
 exact ltB (h.bytes i _ (blocks[i]'(by rw [← h.len]; exact hi)) (List.getElem?_eq_getElem hi) (List.getElem?_eq_getElem _)).2
theorem BkA.kept {w w':World} {B:Nat} {sv:Value} {bs:List Nat} {blocks:List (List UInt8)} (h:BkA w B sv bs blocks) (hk:∀ b,(sv.ownBlock = some b ∨ b ∈ bs) → w'.heap[b]? = w.heap[b]?):BkA w' B sv bs blocks:=by
 refine ⟨⟨h.own.1,?_⟩,fun i b bl hb hbl=>?_⟩
 ·rcases h.own.2 with hn | ⟨g,cap,cur,hv,hb,hg,rest⟩
  ·exact .inl hn
  ·exact .inr ⟨g,cap,cur,hv,hb,(hk g (.inl (by rw [hv]; rfl))).trans hg,rest⟩
 ·have:=h.bytes i b bl hb hbl
  exact ⟨this.1,(hk b (.inr (List.mem_of_getElem? hb))).trans this.2⟩
theorem BkA.snoc {w w2 w3:World} {B n g:Nat} {sv v':Value} {bs:List Nat} {blocks:List (List UInt8)} {nb:List UInt8} {o:Obj} (h:BkA w B sv bs blocks) (hf:FreshB n sv bs) (hn:n ≤ w.heap.size) (hg:w.heap.size ≤ g) (hg2:g < w2.heap.size) (h2:Tc [] w w2) (hnb:nb.length = B) (hb:BytesAt w2 g nb)
  (hown:w3.ownsRow 0 118 1 v' (blocks.length + 1) ((bs.map fun b=>sliceV b B) ++ [sliceV g B])) (hgr:(w2.alloc o).grownBy w3 sv.ownBlock) (hfr:v'.ownBlock = sv.ownBlock ∨ v'.ownBlock = some (w2.alloc o).heap.size) :
  BkA w3 B v' (bs ++ [g]) (blocks ++ [nb]) ∧ FreshB n v' (bs ++ [g]) ∧ Tc sv.ownBlock.toList w w3:=by
 have hlen:=h.len
 have hs2:=h2.size
 obtain ⟨hf1,hf2,hf3⟩:=hf
 obtain ⟨l1,l2⟩:=h.lt
 rw [List.nodup_append] at hf3
 have hsz:(w2.alloc o).heap.size = w2.heap.size + 1:=by simp
 refine ⟨⟨?_,?_⟩,⟨?_,?_,?_⟩,?_⟩
 ·simpa using hown
 ·intro i b bl hb' hbl
  by_cases hi:i < bs.length
  ·rw [List.getElem?_append_left hi] at hb'
   rw [List.getElem?_append_left (by omega)] at hbl
   have h1:=h.bytes i b bl hb' hbl
   have hm:=List.mem_of_getElem? hb'
   have hlt:=l2 b hm
   refine ⟨h1.1,?_⟩
   show w3.heap[b]? = _
   rw [hgr.block _ (by omega) (fun e=>hf3.2.2 b (by simp [← e]) b hm rfl),Below.heap_alloc _ _ _ (by omega),h2.block _ hlt (by simp)]
   exact h1.2
  ·have hi':i = bs.length:=by
    have:=(List.getElem?_eq_some_iff.1 hb').1
    simp at this
    omega
   subst hi'
   simp at hb'
   rw [hlen] at hbl
   simp at hbl
   subst hb' hbl
   refine ⟨hnb,?_⟩
   show w3.heap[g]? = _
   rw [hgr.block _ (by omega) (fun e=>by have:=l1 g e.symm; omega),Below.heap_alloc _ _ _ hg2]
   exact hb
 ·intro x hx
  rcases hfr with e | e
  ·exact hf1 x (e ▸ hx)
  ·rw [e] at hx; simp at hx; omega
 ·intro b hb
  simp at hb
  rcases hb with hb | rfl
  ·exact hf2 b hb
  ·omega
 ·rw [List.nodup_append]
  refine ⟨by cases v'.ownBlock <;> simp,?_,?_⟩
  ·rw [List.nodup_append]
   exact ⟨hf3.2.1,by simp,fun x hx y hy=>by simp at hy; subst hy; have:=l2 x hx; omega⟩
  ·intro x hx y hy
   simp only [Option.mem_toList] at hx
   simp only [List.mem_append,List.mem_cons,List.not_mem_nil,or_false] at hy
   rcases hfr with e | e
   ·rw [e] at hx
    rcases hy with hy | hy
    ·exact hf3.2.2 x (by simp [hx]) y hy
    ·have:=l1 x hx; omega
   ·rw [e] at hx
    simp at hx
    rcases hy with hy | hy
    ·have:=l2 y hy; omega
    ·omega
 ·exact ((h2.mono (by simp)).alloc o).grown hgr (fun x hx=>.inl (by simp [hx]))
section
variable {w w':World} {E:Nat → Addr} {lo p mf mt:Nat} {D:DkC}
set_option maxRecDepth 100000 in
set_option maxHeartbeats 400000 in
theorem copyBlocks_any {B:Nat} {sv:Value} {bs:List Nat} {blocks:List (List UInt8)} (h:BkA w B sv bs blocks) (hB1:64 ≤ B) (hB2:B ≤ 65536) (hn:blocks.length ≤ 1099511627776) :
  Calls Tryz.prog 121 #[sv] w fun e w'=>∃ sv' bs',e = .returned sv' ∧ BkA w' B sv' bs' blocks ∧ FreshB w.heap.size sv' bs' ∧ Below w.heap.size w w':=by
 rcases h.own.2 with ⟨hsv,h2⟩ | ⟨G,gc,_,hsv,_⟩
 ·have hbl:blocks = []:=List.eq_nil_of_length_eq_zero h2
  subst hbl
  rw [hsv]
  clear h hsv
  go_enter Tryz.func121,Tryz.ntmps121
  go_wp2
  refine wp_loop_rounds 1 ?_
  rw [rounds_succ]
  go_wp2
  go_ret
  exact ⟨.slice none 0 0,[],rfl,⟨World.ownsRow_nil _ _ _ _,fun i b bl hb=>by simp at hb⟩,⟨by simp [Value.ownBlock],by simp,by simp [Value.ownBlock]⟩,Below.refl _ _⟩
 ·have H:=hid h
  have HSV:=hid hsv
  rw [hsv]
  clear h hsv
  go_enter Tryz.func121,Tryz.ntmps121
  go_wp2
  go_loopw [3,8] (fun v i wr=>∃ (k:Nat) (bs':List Nat),k ≤ blocks.length ∧ i = .int .i64 k ∧ BkA wr B v bs' (blocks.take k) ∧ FreshB w.heap.size v bs' ∧ Below w.heap.size w wr) (fun _ i _=>blocks.length - (intOf i).toNat)
  case atStart=>exact ⟨0,[],Nat.zero_le _,rfl,⟨World.ownsRow_nil _ _ _ _,fun i b bl hb=>by simp at hb⟩,⟨by simp [Value.ownBlock],by simp,by simp [Value.ownBlock]⟩,Below.refl _ _⟩
  case round =>
   obtain ⟨k,bs',hk,rfl,hB,hF,hb⟩:=hrel
   by_cases hlt:k < blocks.length
   ·have hsrc:BkA wr B sv bs blocks:=H.out.kept fun b hb'=>hb.block b (by rcases hb' with h | h; exact H.out.lt.1 b h; exact H.out.lt.2 b h)
    obtain ⟨g,cap,b,e1,cG,hlen,hby,_⟩:=hsrc.at hlt
    rw [HSV.out] at e1
    simp only [Value.slice.injEq,Option.some.injEq,Addr.mk.injEq] at e1
    obtain ⟨⟨rfl,_⟩,hgc⟩:=e1
    clear hgc
    have hl:(blocks.take k).length = k:=by simp; omega
    have HC:=hid (copy_at hby hlen hB1 hB2)
    have HB:=hid hB
    have HF:=hid hF
    have HBW:=hid hb
    have HL:=hid hl
    have HLEN:=hid hlen
    clear hsrc hby hB hF hb hl hlen
    go_wp2_with (first
     |(go_at_call 173; refine HC.out.mono ?_; rintro e w2 ⟨rfl,hb2,ht2,hz2⟩; have HB2:=hid hb2; have HT2:=hid ht2; have HZ2:=hid hz2; clear hb2 ht2 hz2)
     |(at_builtin; refine wpList_append_fresh _ rfl _ _ rfl u3 k (bs'.map fun b=>sliceV b B) ⟨w2.heap.size,0,none⟩ (sliceV wr.heap.size B) rfl rfl ?h1 ?h2 rfl ?h3 ?_; rotate_left 3; intro v' w3 r1 r2 r3; have H1:=hid r1; have H2:=hid r2; have H3:=hid r3; clear r1 r2 r3))
    case h1 =>
     have h:=ownsRow_touch HB.out.own HT2.out (by simp)
     rw [HL.out] at h
     exact h.alloc _
    case h2=>exact cRw (heap_alloc_new w2 _) 0
    case h3=>omega
    have hz:=HZ2.out
    have hbw:=HBW.out.size
    have hl:=HL.out
    have hr:=HB.out.snoc (nb:=blocks[k]) HF.out hbw (Nat.le_refl _) (by omega) HT2.out HLEN.out HB2.out (by rw [hl]; exact H1.out) H2.out H3.out
    have htk:blocks.take (k + 1) = blocks.take k ++ [blocks[k]]:=List.take_succ_eq_append_getElem hlt
    have hbel:Below w.heap.size w w3:=HBW.out.trans (hr.2.2.below hbw (fun b hb=>HF.out.1 b (by simpa using hb)))
    rw [← htk] at hr
    have HR:=hid hr
    have HBE:=hid hbel
    clear hr hbel htk hz hl hbw
    go_roundw
    case rel=>first | exact ⟨k + 1,bs' ++ [wr.heap.size],by omega,by go_num,HR.out.1,HR.out.2.1,HBE.out⟩ | ((repeat apply Exists.intro); exact ⟨⟨k + 1,bs' ++ [wr.heap.size],by omega,by go_num,HR.out.1,HR.out.2.1,HBE.out⟩,rfl⟩)
    case measure=>simp [intOf]; omega
   ·go_wp2
    go_ret
    have hk':k = blocks.length:=by omega
    subst hk'
    rw [List.take_length] at hB
    exact ⟨u3,bs',rfl,hB,hF,hb⟩
end
theorem FreshB.mono {n m:Nat} {sv:Value} {bs:List Nat} (h:FreshB n sv bs) (hm:m ≤ n):FreshB m sv bs:=⟨fun x hx=>Nat.le_trans hm (h.1 x hx),fun b hb=>Nat.le_trans hm (h.2.1 b hb),h.2.2⟩
section
variable {w w':World} {E:Nat → Addr} {lo p mf mt:Nat} {D:DkC}
theorem BkA.own_slice {B:Nat} {sv:Value} {bs:List Nat} {blocks:List (List UInt8)} (h:BkA w B sv bs blocks):∃ a n c,sv = .slice a n c:=by
 rcases h.own.2 with ⟨h1,_⟩ | ⟨g,cap,cur,h1,_⟩
 ·exact ⟨none,0,0,h1⟩
 ·exact ⟨_,_,cap,h1⟩
theorem told_facts {a b:Nat} {u v:Value} {w2:World} {o:Array Value} (h0:w.cell? ⟨a,0,none⟩ = some u) (h1:w.cell? ⟨a,1,none⟩ = some v) (ht:Below (w.alloc (.cells o b)).drew.heap.size (w.alloc (.cells o b)).drew w2) :
  w2.cell? ⟨a,0,none⟩ = some u ∧ w2.cell? ⟨a,1,none⟩ = some v ∧ (w2.cell? ⟨w.heap.size,0,none⟩ = o[0]? ∧ w2.cell? ⟨w.heap.size,1,none⟩ = o[1]? ∧ w2.cell? ⟨w.heap.size,2,none⟩ = o[2]?) ∧
   (w2.frozen? ⟨w.heap.size,0,none⟩ = false ∧ w2.frozen? ⟨w.heap.size,1,none⟩ = false ∧ w2.frozen? ⟨w.heap.size,2,none⟩ = false):=by
 have la:=World.block_lt_of_cell? w _ h0
 have hs:(w.alloc (.cells o b)).drew.heap.size = w.heap.size + 1:=by simp
 have hr:w2.heap[w.heap.size]? = some (.cells o b (0,0)):=(ht.block _ (by omega)).trans (heap_alloc_new w _)
 have hc:∀ i x,w.cell? ⟨a,i,none⟩ = some x → w2.cell? ⟨a,i,none⟩ = some x:=fun i x h=>(ht.cell (p:=⟨a,i,none⟩) (by have:a < w.heap.size:=la; show a < _; omega)).trans ((World.cell?_of_block (Below.heap_alloc w _ a la)).trans h)
 exact ⟨hc 0 u h0,hc 1 v h1,⟨cRw hr 0,cRw hr 1,cRw hr 2⟩,⟨uRw hr 0,uRw hr 1,uRw hr 2⟩⟩
set_option maxRecDepth 100000 in
set_option maxHeartbeats 400000 in
theorem told_any {B:Nat} {L:Lay} {f:FlA} (hat:FileAt w B L f) (s:ByteArray) (hB1:64 ≤ B) (hB2:B ≤ 65536) (hn:f.blocks.length ≤ 1099511627776) :
  Calls Tryz.prog 67 #[ptr L.fb,.string s] w fun e w'=>∃ sv' bs',e = .returned (.agg #[.string s,.bool f.shut,sv']) ∧ BkA w' B sv' bs' f.blocks ∧ FreshB w.heap.size sv' bs' ∧ Below w.heap.size w w':=by
 have hrow:=hat.row
 have lfb:=ltB hrow
 have c0:=cRw hrow 0
 have c1:=cRw hrow 1
 simp at c0 c1
 have HC:=hid (fun (o:Obj)=>copyBlocks_any (w:=(w.alloc o).drew) (((hat.kept fun b hb=>Below.heap_alloc w o b (hat.lt b hb)).blocksAt).kept fun _ _=>rfl) hB1 hB2 hn)
 clear hat hrow
 obtain ⟨x,hx,c0'⟩:∃ x:Int,(x == 1) = f.shut ∧ w.cell? ⟨L.fb,0,none⟩ = some (.int .i64 x):=by
  cases hs:f.shut
  ·rw [hs] at c0; exact ⟨0,by decide,by simpa using c0⟩
  ·rw [hs] at c0; exact ⟨1,by decide,by simpa using c0⟩
 clear c0
 have hnw:=World.new_ne w ⟨L.fb,0,none⟩ c0'
 have hnw1:=World.new_ne w ⟨L.fb,1,none⟩ c1
 go_enter Tryz.func67,Tryz.ntmps67
 go_wp2
 go_region_held3 (fun W=>W.cell? ⟨L.fb,0,none⟩ = some (.int .i64 x) ∧ W.cell? ⟨L.fb,1,none⟩ = some L.sv) (go_keep)
  (first | (go_at_call 121; refine (HC.out _).mono ?_; rintro e w2 ⟨sv',bs',rfl,hb2,hf2,ht2⟩; have HB2:=hid hb2; have HF2:=hid hf2; have HT2:=hid ht2; obtain ⟨v0,v1,⟨q0,q1,q2⟩,⟨z0,z1,z2⟩⟩:=told_facts c0' c1 ht2; obtain ⟨ga,gn,gc,hsv'⟩:=hb2.own_slice; clear hb2 hf2 ht2))
 go_wp2
 refine bodyPost_ret (v:=.agg #[.string s,.bool f.shut,.slice ga gn gc]) (by simp [results,Tryz.results67,go_sem,q0,q1,q2]) rfl ⟨sv',bs',by rw [hsv'],?_,HF2.out.mono (by simp),?_⟩
 ·refine HB2.out.kept fun b hb=>?_
  have hbn:b ≠ w.heap.size:=by
   have h1:=HF2.out.1 b
   have h2:=HF2.out.2.1 b
   have hz:(w.alloc (.cells #[.string ⟨#[]⟩,.bool false,.slice none 0 0] 113)).drew.heap.size = w.heap.size + 1:=by simp
   rcases hb with h | h
   ·have:=h1 h; omega
   ·have:=h2 h; omega
  rw [Below.heap_setCell _ _ _ _ hbn,Below.heap_setCell _ _ _ _ hbn,Below.heap_setCell _ _ _ _ hbn]
 ·have hb0:Below w.heap.size w w2:=((Below.refl _ w).alloc (Nat.le_refl _) _).drew.trans (HT2.out.mono (by simp))
  exact ((hb0.setCell (Nat.le_refl _) _).setCell (Nat.le_refl _) _).setCell (Nat.le_refl _) _
end
structure SFl where
 name:List UInt8
 file:FlA
 sv:Value
 bs:List Nat
def SFl.cells (e:SFl):List Value:=[encStr e.name,.bool e.file.shut,e.sv]
def SFl.pub (e:SFl):List UInt8 × FlA:=(e.name,e.file)
structure StateAt (w:World) (n B:Nat) (fv:Value) (l:List SFl):Prop where
 own:w.ownsRow n 113 3 fv l.length (l.flatMap SFl.cells)
 each:∀ e ∈ l,BkA w B e.sv e.bs e.file.blocks
 from_:∀ e ∈ l,FreshB n e.sv e.bs
theorem Tryz.info113:(Tryz.prog.info? 113).map (fun i=>(i.zero,i.size,i.bytes)) = some (some (.agg #[.string ⟨#[]⟩,.bool false,.slice none 0 0]),3,48):=by kernel_rfl
theorem step_append_file {ops:Array Oper} {o:Oper} {a:Act} {w:World} {K:Act → World → Prop} {Q:Exit → Act → World → Prop} {X:Prop}
  (hg:o.guard = none) (s x:Operand) (hop:o.op = Op.call { callee:=Callee.builtin Builtin.append,args:=#[s,x],argTypes:=#[40,40] })
  (base:Nat) (v:Value) (n:Nat) (xs:List Value) (b:Nat) (c0 c1 c2:Value) (hs:a.eval s = v) (hx:a.eval x = .slice (some ⟨b,0,none⟩) 1 1) (hown:w.ownsRow base 113 3 v n xs) (hb:w.heap[b]? = some (.cells #[c0,c1,c2] 113 (0,0))) (h0:c0.oneCell' = true) (h1:c1.oneCell' = true) (h2:c2.oneCell' = true) (hn:n ≤ 1099511627776) (hbase:base ≤ w.heap.size)
  (hK:∀ g cap w',w'.ownsRow base 113 3 (.slice (some ⟨g,0,none⟩) (n + 1) cap) (n + 1) (xs ++ [c0,c1,c2]) → w.grownBy w' v.ownBlock → K (a.put o.dst (.slice (some ⟨g,0,none⟩) (n + 1) cap)) w') :
  if Region.wanted o (yielded ops a.tmps) = true then Oper.wp Tryz.prog o a w K Q else X:=by
 have hw:Region.wanted o (yielded ops a.tmps) = true:=by simp [Region.wanted,hg]
 rw [if_pos hw]
 obtain ⟨i,hi,hz0,hz1,hz2⟩:=info_parts Tryz.info113
 have hnews:∀ j u,[c0,c1,c2][j]? = some u → w.cell? ((⟨b,0,none⟩:Addr).add j) = some u:=by
  intro j u hu
  have hadd:(⟨b,0,none⟩:Addr).add j = ⟨b,j,none⟩:=by unfold Addr.add; split <;> simp_all
  rw [hadd,cRw hb j]
  simpa using hu
 have hone:∀ u ∈ [c0,c1,c2],u.oneCell' = true:=by simp [h0,h1,h2]
 obtain ⟨v',w',hrun,r1,r2,_⟩:=run_append_own (P:=Tryz.prog) w base 40 o.type 113 i _ 3 48 Tryz.underlying40 hi hz0 hz1 hz2 rfl (by decide) v n xs hown ⟨b,0,none⟩ 1 1 [c0,c1,c2] rfl hnews hone (by unfold maxLen; omega) (by omega) hbase
 have hv:∃ g cap,v' = .slice (some ⟨g,0,none⟩) (n + 1) cap:=by
  rcases r1.2 with ⟨_,h⟩ | ⟨g,cap,_,h,_⟩
  ·omega
  ·exact ⟨g,cap,h⟩
 obtain ⟨g,cap,rfl⟩:=hv
 unfold Oper.wp
 simp [execOp,hop,resolve,invoke,builtin,hs,hx,hrun,Result.andThen]
 exact hK g cap w' r1 r2
theorem BkA.ne_row {w:World} {B:Nat} {sv:Value} {bs:List Nat} {blocks:List (List UInt8)} (h:BkA w B sv bs blocks) {g:Nat} {c:Array Value} (hg:w.heap[g]? = some (.cells c 113 (0,0))):sv.ownBlock ≠ some g ∧ g ∉ bs:=by
 refine ⟨fun e=>?_,fun hm=>?_⟩
 ·rcases h.own.2 with ⟨h1,_⟩ | ⟨g',cap,cur,h1,_,hg',_⟩
  ·rw [h1] at e; simp [Value.ownBlock] at e
  ·rw [h1] at e; simp [Value.ownBlock] at e; subst e; rw [hg] at hg'; simp at hg'
 ·obtain ⟨i,hi,rfl⟩:=List.getElem_of_mem hm
  have:=(h.bytes i _ (blocks[i]'(by rw [← h.len]; exact hi)) (List.getElem?_eq_getElem hi) (List.getElem?_eq_getElem _)).2
  unfold BytesAt at this
  rw [hg] at this
  simp at this
theorem StateAt.snoc {w w2 w3:World} {n B:Nat} {fv v':Value} {l:List SFl} {e:SFl} {o:Obj} (h:StateAt w n B fv l) (hn:n ≤ w.heap.size) (hb:Below w.heap.size w w2) (he:BkA w2 B e.sv e.bs e.file.blocks) (hef:FreshB w.heap.size e.sv e.bs)
  (hown:w3.ownsRow n 113 3 v' (l.length + 1) (l.flatMap SFl.cells ++ e.cells)) (hgr:(w2.alloc o).grownBy w3 fv.ownBlock):StateAt w3 n B v' (l ++ [e]) ∧ Below n w w3:=by
 have hs:=hb.size
 have hsz:(w2.alloc o).heap.size = w2.heap.size + 1:=by simp
 have hrow:∀ g,fv.ownBlock = some g → n ≤ g ∧ g < w.heap.size ∧ ∃ c,w.heap[g]? = some (.cells c 113 (0,0)):=by
  intro g hg
  rcases h.own.2 with ⟨h1,_⟩ | ⟨g',cap,cur,h1,hb',hg',_⟩
  ·rw [h1] at hg; simp [Value.ownBlock] at hg
  ·rw [h1] at hg; simp [Value.ownBlock] at hg; subst hg; exact ⟨hb',ltB hg',cur,hg'⟩
 refine ⟨⟨?_,?_,?_⟩,?_⟩
 ·simpa [List.flatMap_append] using hown
 ·intro x hx
  rcases List.mem_append.1 hx with hx | hx
  ·refine (h.each x hx).kept fun b hb'=>?_
   have hlt:b < w.heap.size:=by rcases hb' with h' | h'; exact (h.each x hx).lt.1 b h'; exact (h.each x hx).lt.2 b h'
   have hne:some b ≠ fv.ownBlock:=fun e'=>by
    obtain ⟨_,_,c,hc⟩:=hrow b e'.symm
    have:=(h.each x hx).ne_row hc
    rcases hb' with h' | h'
    ·exact this.1 h'
    ·exact this.2 h'
   rw [hgr.block b (by omega) hne,Below.heap_alloc _ _ _ (by omega),hb.block b hlt]
  ·simp at hx
   subst hx
   refine he.kept fun b hb'=>?_
   have hge:w.heap.size ≤ b:=by rcases hb' with h' | h'; exact hef.1 b h'; exact hef.2.1 b h'
   have hlt:b < w2.heap.size:=by rcases hb' with h' | h'; exact he.lt.1 b h'; exact he.lt.2 b h'
   have hne:some b ≠ fv.ownBlock:=fun e'=>by have:=(hrow b e'.symm).2.1; omega
   rw [hgr.block b (by omega) hne,Below.heap_alloc _ _ _ hlt]
 ·intro x hx
  rcases List.mem_append.1 hx with hx | hx
  ·exact h.from_ x hx
  ·simp at hx; subst hx; exact hef.mono hn
 ·exact ((hb.mono hn).alloc (by omega) o).grown hgr (by omega) (fun k hk=>(hrow k hk).1)
section
variable {w w':World} {E:Nat → Addr} {lo p mf mt:Nat} {D:DkC}
theorem Rep.look1 (h:Rep w lo p mf mt D) {e0:Ent} (he:e0 ∈ D.ents) :
  (Instr.lookup 97 (.map (some mf)) (encStr e0.name) false).run Tryz.prog w = .ok (ptr e0.lay.fb) w:=by
 have hs:(⟨e0.name.toArray⟩:ByteArray).size ≤ 32:=by
  show e0.name.toArray.size ≤ 32
  simpa using h.names e0 he
 obtain ⟨v,ps,hrun,hv⟩:=h.files.lookup (t:=97) (e:=128) (Maps.string_keyed Tryz.underlying9) Tryz.underlying97 (Tryz.zero128 w) (zd:=.nil) (zp:=[]) rfl (WideMaps.keyOf_string_mk Tryz.underlying9 (s:=⟨e0.name.toArray⟩) (by unfold maxLen; omega))
 rw [at_map] at hv
 have hf:findE D.ents e0.name = some e0:=by
  cases hx:findE D.ents e0.name with
  | none =>
   have:=List.find?_eq_none.1 hx e0 he
   simp at this
  | some e1=>rw [h.one hx e0 he rfl]
 dsimp only at hv
 rw [hf] at hv
 rw [hrun,ptrElem_inv hv]
end
end Go.Proofs.YthehcjjckabljaaGreatDoor
