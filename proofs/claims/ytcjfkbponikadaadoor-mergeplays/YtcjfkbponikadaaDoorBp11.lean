/-
  A Merge as a state, and what its steps make of what it holds (no body of the program in it).
  The contract of sort.Slice that the library holds, laid at this dump.
  roref.within, Key and Value: what they answer.
-/
import Derived.Test.YtcjfkbponikadaaDoorBp9
import Derived.Shelf.Strings.SlTrimAscii
import Derived.Ground.NamesProg
import Derived.Test.YtcjfkbponikadaaDoorProg
import Derived.Test.YtcjfkbponikadaaDoorBp7
set_option linter.unusedVariables false
set_option linter.unusedSimpArgs false
namespace Go.Proofs.YtcjfkbponikadaaDoor
open Go.RowKit

section
variable {α : Type}
def totB (b : List (List α)) : Nat := (b.map List.length).sum
theorem tot_modify (ins : List (List (List α))) : ∀ (i : Nat) (b : List (List α)) (f : List (List α) → List (List α)), ins[i]? = some b → totM (ins.modify i f) + totB b = totM ins + totB (f b) := by
  induction ins with
  | nil => intro i b f h; simp at h
  | cons a r ih =>
    intro i b f h
    cases i with
    | zero => simp at h; subst h; simp [totM, totB]; omega
    | succ i =>
      simp at h
      have := ih i b f h
      simp only [totM, List.modify_succ_cons, List.map_cons, List.sum_cons] at this ⊢
      omega
theorem totB_modify (b : List (List α)) : ∀ (k : Nat) (x : α), k < b.length → totB (b.modify k (· ++ [x])) = totB b + 1 := by
  induction b with
  | nil => intro k x h; simp at h
  | cons a r ih =>
    intro k x h
    cases k with
    | zero => simp [totB]; omega
    | succ k =>
      have := ih k x (by simp at h; omega)
      simp only [totB, List.modify_succ_cons, List.map_cons, List.sum_cons] at this ⊢
      omega
theorem tot_add {ins : List (List (List α))} {i : Nat} {b : List (List α)} (x : α) (h : ins[i]? = some b) (hb : b ≠ []) : totM (addM ins i x) = totM ins + 1 := by
  have h1 := tot_modify ins i b (fun b => b.modify (b.length - 1) (· ++ [x])) h
  have h2 := totB_modify b (b.length - 1) x (by have := List.length_pos_iff.2 hb; omega)
  unfold addM
  omega
theorem tot_close {ins : List (List (List α))} {i : Nat} {b : List (List α)} (h : ins[i]? = some b) : totM (closeM ins i) = totM ins := by
  have h1 := tot_modify ins i b (· ++ [[]]) h
  have h2 : totB (b ++ [[]]) = totB b := by simp [totB]
  unfold closeM
  omega
/-- the error of Close, the number, what is held behind it -/
def closeQ (ct : List (List (List α))) (i : Int) : Int := if 0 ≤ i ∧ i < (ct.length : Int) then (if 61 ≤ ((ct[i.toNat]?).getD []).length then 2 else 0) else 4
def closeN (ct : List (List (List α))) (i : Int) : Int := if closeQ ct i = 0 then (((ct[i.toNat]?).getD []).length : Int) else 0
def closeC (ct : List (List (List α))) (i : Int) : List (List (List α)) := if closeQ ct i = 0 then closeM ct i.toNat else ct
theorem closeQ_ok {ct : List (List (List α))} {i : Nat} {b : List (List α)} (h : ct[i]? = some b) (hb : b.length ≤ 60) : closeQ ct (i : Int) = 0 ∧ closeN ct (i : Int) = (b.length : Int) ∧ closeC ct (i : Int) = closeM ct i := by
  have hi : i < ct.length := (List.getElem?_eq_some_iff.1 h).1
  have hq : closeQ ct (i : Int) = 0 := by
    unfold closeQ
    rw [if_pos (by omega), Int.toNat_natCast, h]
    simp only [Option.getD_some]
    rw [if_neg (by omega)]
  exact ⟨hq, by unfold closeN; rw [if_pos hq, Int.toNat_natCast, h]; rfl, by unfold closeC; rw [if_pos hq, Int.toNat_natCast]⟩
theorem closeQ_full {ct : List (List (List α))} {i : Nat} {b : List (List α)} (h : ct[i]? = some b) (hb : 61 ≤ b.length) : closeQ ct (i : Int) = 2 ∧ closeN ct (i : Int) = 0 ∧ closeC ct (i : Int) = ct := by
  have hi : i < ct.length := (List.getElem?_eq_some_iff.1 h).1
  have hq : closeQ ct (i : Int) = 2 := by
    unfold closeQ
    rw [if_pos (by omega), Int.toNat_natCast, h]
    simp only [Option.getD_some]
    rw [if_pos (by omega)]
  exact ⟨hq, by unfold closeN; rw [if_neg (by rw [hq]; decide)], by unfold closeC; rw [if_neg (by rw [hq]; decide)]⟩
theorem closeQ_none {ct : List (List (List α))} {i : Int} (h : ¬ (0 ≤ i ∧ i < (ct.length : Int))) : closeQ ct i = 4 ∧ closeN ct i = 0 ∧ closeC ct i = ct := by
  have hq : closeQ ct i = 4 := by unfold closeQ; rw [if_neg h]
  exact ⟨hq, by unfold closeN; rw [if_neg (by rw [hq]; decide)], by unfold closeC; rw [if_neg (by rw [hq]; decide)]⟩
end
/-- the error of Add, what is held behind it -/
def addQ (ct : List (List (List Ent))) (i : Int) (x : Ent) : Int := if 0 ≤ i ∧ i < (ct.length : Int) then (if chkE x = 0 then (if 60 ≤ totM ct then 2 else 0) else chkE x) else 4
def addC (ct : List (List (List Ent))) (i : Int) (x : Ent) : List (List (List Ent)) := if addQ ct i x = 0 then addM ct i.toNat (dropE x) else ct

/-- a Merge: where it lies -/
structure Ms where
  g : Nat
  AI : Option Addr
  cI : Nat
  ins : List In
  added : Nat
def Ms.F (s : Ms) (k : Nat) : Prop := CF s.g s.AI s.ins k
def Ms.ct (s : Ms) : List (List (List Ent)) := ctM s.ins
structure Ms.Ok (s : Ms) (w : World) (B : Nat) : Prop where
  mg : MG w B s.g s.AI s.cI s.ins s.added
  gm : Gm s.ins s.added
/-- a step of a Merge -/
structure Ms.To (s : Ms) (w : World) (B : Nat) (s' : Ms) (w' : World) (ct' : List (List (List Ent))) : Prop where
  g : s'.g = s.g
  ok : s'.Ok w' B
  ct : s'.ct = ct'
  fr : Fr s.F w w'
  F : ∀ k, s'.F k → s.F k ∨ w.heap.size ≤ k
section
variable {s s' s2 : Ms} {w w1 w' : World} {B B' : Nat} {ct' ct2 : List (List (List Ent))}
theorem Ms.Ok.below (h : s.Ok w B) (hb : Below w.heap.size w w') : s.Ok w' B := ⟨h.mg.below hb, h.gm⟩
theorem Ms.Ok.mono (h : s.Ok w B) (hB : B' ≤ B) : s.Ok w B' := ⟨h.mg.mono hB, h.gm⟩
theorem Ms.Ok.lo (h : s.Ok w B) {k : Nat} (hk : s.F k) : B ≤ k ∧ k < w.heap.size := (h.mg.cf_ty hk).2
theorem Ms.Ok.size (h : s.Ok w B) : B ≤ w.heap.size := by have := h.mg.low; have := h.mg.box.lt; omega
theorem Ms.Ok.fr {F : Nat → Prop} (h : s.Ok w B) (hf : Fr F w w') (hd : ∀ q, s.F q → ¬ F q) (o1 : Off F w 76) (o2 : Off F w 9) (o3 : Off F w 3) : s.Ok w' B := ⟨h.mg.fr hf hd o1 o2 o3, h.gm⟩
theorem Ms.To.mono (h : s.To w B s' w' ct') (hB : B' ≤ B) : s.To w B' s' w' ct' := ⟨h.g, h.ok.mono hB, h.ct, h.fr, h.F⟩
theorem Ms.To.same (h : s.Ok w B) (hb : Below w.heap.size w w') : s.To w B s w' s.ct := ⟨rfl, h.below hb, rfl, .of_below hb, fun _ => .inl⟩
theorem Ms.To.pre (h : s.To w1 B s' w' ct') (hb : Below w.heap.size w w1) : s.To w B s' w' ct' := ⟨h.g, h.ok, h.ct, (Fr.of_below hb).comp h.fr, fun k hk => (h.F k hk).imp id fun e => Nat.le_trans hb.size e⟩
theorem Ms.To.post (h : s.To w B s' w1 ct') (hb : Below w1.heap.size w1 w') : s.To w B s' w' ct' := ⟨h.g, h.ok.below hb, h.ct, h.fr.comp (.of_below hb), h.F⟩
theorem Ms.To.trans (h : s.To w B s' w1 ct') (h2 : s'.To w1 B s2 w' ct2) : s.To w B s2 w' ct2 :=
  ⟨h2.g.trans h.g, h2.ok, h2.ct, h.fr.trans h2.fr h.F, fun k hk => (h2.F k hk).elim (h.F k) fun e => .inr (Nat.le_trans h.fr.size e)⟩
/-- below the Merge nothing changes -/
theorem Ms.To.below_ {a : World} {B0 : Nat} (h : s.To w B s' w' ct') (ho : s.Ok w B) (hB : B0 ≤ B) (hb : Below B0 a w) : Below B0 a w' := h.fr.below (fun k hk => Nat.le_trans hB (ho.lo hk).1) (Nat.le_trans hB ho.size) hb
/-- what lies apart from a Merge -/
theorem Ms.Ok.off (h : s.Ok w B) {t : TypeId} (h1 : t ≠ 53) (h2 : t ≠ 55) (h3 : t ≠ 64) (h4 : t ≠ 41) : Off s.F w t := h.mg.off h1 h2 h3 h4
end
/-- a row of entries lies apart from a Merge -/
def Apa (s : Ms) (A : Option Addr) : Prop := ∀ k, blk A = some k → ¬ s.F k
theorem EW.to_ {s s' : Ms} {w w' : World} {B B' : Nat} {ct' : List (List (List Ent))} {A : Option Addr} {c : Nat} {xs : List Em} (h : EW w B' A c xs) (ho : s.Ok w B) (ht : s.To w B s' w' ct') (ha : Apa s A) : EW w' B' A c xs ∧ Apa s' A :=
  ⟨⟨ht.fr.own h.row fun k hk => ha k (ob hk), fun x hx => ⟨ht.fr.own_ty (h.eo x hx).ops (ho.off (by decide) (by decide) (by decide) (by decide)), ⟨ht.fr.own_ty (h.eo x hx).map.cuts (ho.off (by decide) (by decide) (by decide) (by decide)), ht.fr.own_ty (h.eo x hx).map.own (ho.off (by decide) (by decide) (by decide) (by decide))⟩⟩, h.bd⟩,
    fun k hk hF => (ht.F k hF).elim (ha k hk) fun e => by have := (World.ownsRow.lt h.row k (bo _ _ hk)).2; omega⟩
end Go.Proofs.YtcjfkbponikadaaDoor

namespace Go.Proofs
open Go.Shelf
def Tryd.trim_ren : Go.Shelf.Ren := ⟨fun | 160 => 54 | 232 => 57 | 231 => 56 | 227 => 58 | 234 => 60 | 233 => 59 | 236 => 62 | 235 => 61 | 228 => 63 | 271 => 66 | 151 => 65 | 197 => 64 | 120 => 69 | 152 => 68 | 260 => 67 | 137 => 70 | 119 => 71 | 224 => 72 | 225 => 73 | 217 => 74 | 266 => 75 | n => n, fun | 9 => 9 | 4 => 4 | 3 => 3 | 5 => 5 | 117 => 94 | 116 => 93 | 0 => 0 | 124 => 97 | 21 => 21 | 105 => 99 | 46 => 60 | 119 => 103 | 139 => 106 | 138 => 105 | n => n, fun | 3 => 0 | 4 => 1 | n => n⟩
theorem Tryd.trim : Go.Proofs.Lays.n160 Tryd.prog Tryd.trim_ren := {
  mixed := by kernel_rfl
  f119 := Tryd.func71.trans (congrArg some (by kernel_rfl))
  f120 := Tryd.func69.trans (congrArg some (by kernel_rfl))
  f137 := Tryd.func70.trans (congrArg some (by kernel_rfl))
  f151 := Tryd.func65.trans (congrArg some (by kernel_rfl))
  f152 := Tryd.func68.trans (congrArg some (by kernel_rfl))
  f160 := Tryd.func54.trans (congrArg some (by kernel_rfl))
  f197 := Tryd.func64.trans (congrArg some (by kernel_rfl))
  f217 := Tryd.func74.trans (congrArg some (by kernel_rfl))
  f224 := Tryd.func72.trans (congrArg some (by kernel_rfl))
  f225 := Tryd.func73.trans (congrArg some (by kernel_rfl))
  f227 := Tryd.func58.trans (congrArg some (by kernel_rfl))
  f228 := Tryd.func63.trans (congrArg some (by kernel_rfl))
  f231 := Tryd.func56.trans (congrArg some (by kernel_rfl))
  f232 := Tryd.func57.trans (congrArg some (by kernel_rfl))
  f233 := Tryd.func59.trans (congrArg some (by kernel_rfl))
  f234 := Tryd.func60.trans (congrArg some (by kernel_rfl))
  f235 := Tryd.func61.trans (congrArg some (by kernel_rfl))
  f236 := Tryd.func62.trans (congrArg some (by kernel_rfl))
  f260 := Tryd.func67.trans (congrArg some (by kernel_rfl))
  f266 := Tryd.func75.trans (congrArg some (by kernel_rfl))
  f271 := Tryd.func66.trans (congrArg some (by kernel_rfl))
  t0 := Tryd.underlying0
  a0 := Tryd.isAgg0
  z0 := Tryd.sizeOf0
  v0 := Tryd.zeroValue0
  t3 := Tryd.underlying3
  a3 := Tryd.isAgg3
  z3 := Tryd.sizeOf3
  v3 := Tryd.zeroValue3
  t4 := Tryd.underlying4
  a4 := Tryd.isAgg4
  z4 := Tryd.sizeOf4
  v4 := Tryd.zeroValue4
  t5 := Tryd.underlying5
  a5 := Tryd.isAgg5
  z5 := Tryd.sizeOf5
  v5 := Tryd.zeroValue5
  t9 := Tryd.underlying9
  a9 := Tryd.isAgg9
  z9 := Tryd.sizeOf9
  v9 := Tryd.zeroValue9
  t21 := Tryd.underlying21
  a21 := Tryd.isAgg21
  z21 := Tryd.sizeOf21
  v21 := Tryd.zeroValue21
  t46 := Tryd.underlying60
  a46 := Tryd.isAgg60
  z46 := Tryd.sizeOf60
  v46 := Tryd.zeroValue60
  t105 := Tryd.underlying99
  a105 := Tryd.isAgg99
  z105 := Tryd.sizeOf99
  v105 := Tryd.zeroValue99
  t116 := Tryd.underlying93
  a116 := Tryd.isAgg93
  z116 := Tryd.sizeOf93
  t117 := Tryd.underlying94
  a117 := Tryd.isAgg94
  z117 := Tryd.sizeOf94
  v117 := Tryd.zeroValue94
  t119 := Tryd.underlying103
  a119 := Tryd.isAgg103
  z119 := Tryd.sizeOf103
  t124 := Tryd.underlying97
  a124 := Tryd.isAgg97
  z124 := Tryd.sizeOf97
  v124 := Tryd.zeroValue97
  t138 := Tryd.underlying105
  a138 := Tryd.isAgg105
  z138 := Tryd.sizeOf105
  v138 := Tryd.zeroValue105
  t139 := Tryd.underlying106
  a139 := Tryd.isAgg106
  z139 := Tryd.sizeOf106
  v139 := Tryd.zeroValue106
  g3 := by kernel_rfl
  g4 := by kernel_rfl }
end Go.Proofs

set_option linter.unusedVariables false
set_option linter.unusedSimpArgs false
namespace Go.Proofs.YtcjfkbponikadaaDoor
open Go.RowKit Go.WideMaps Go.Maps

set_option maxHeartbeats 400000 in
theorem rwithin_any (x a b : Int) (w : World) :
    Calls Tryd.prog 37 #[.int .i64 x, .int .i64 a, .int .i64 b] w fun e w' => e = .returned (.bool (decide (a ≤ x) && decide (x ≤ b))) ∧ w = w' := by
  by_cases h1 : a ≤ x <;> by_cases h2 : x ≤ b
  all_goals
    go_enter Tryd.func37, Tryd.ntmps37
    go_wp2
    go_ret
    exact ⟨ret_bool (by simp [h1, h2]), rfl⟩

set_option maxHeartbeats 400000 in
theorem rvalue_any (n : Int) (w : World) : Calls Tryd.prog 52 #[.int .i64 n] w fun e w' => e = .returned (.bool (valB n)) ∧ w = w' := by
  go_enter Tryd.func52, Tryd.ntmps52
  go_wp2_with fail
  refine (rwithin_any n (-1000000000) 1000000000 _).mono ?_
  rintro e w' ⟨rfl, rfl⟩
  rw [show (decide ((-1000000000 : Int) ≤ n) && decide (n ≤ 1000000000)) = valB n from rfl]
  go_wp2_with fail
  go_ret
  exact ⟨rfl, rfl⟩

def abcL : List UInt8 := [97, 98, 99, 100, 101, 102, 103, 104, 105, 106, 107, 108, 109, 110, 111, 112, 113, 114, 115, 116, 117, 118, 119, 120, 121, 122]
theorem abc_low : ∀ c : UInt8, abcL.contains c = lowB c := by
  have h : ∀ n : Fin 256, abcL.contains (UInt8.ofNat n.val) = lowB (UInt8.ofNat n.val) := by decide +kernel
  intro c
  have := h ⟨c.toNat, c.toNat_lt⟩
  simpa using this
theorem dropWhile_nil {p : UInt8 → Bool} {l : List UInt8} : l.dropWhile p = [] ↔ l.all p = true := by
  induction l with
  | nil => simp
  | cons a r ih => cases h : p a <;> simp [List.dropWhile_cons, h, ih]
theorem all_append_dropWhile {p : UInt8 → Bool} (l : List UInt8) : l.all p = (l.dropWhile p).all p := by
  induction l with
  | nil => rfl
  | cons a r ih => cases h : p a <;> simp [List.dropWhile_cons, h, ih]
theorem trim_nil (l : List UInt8) : (Lib.trimS l abcL).isEmpty = l.all lowB := by
  have e : (fun c => abcL.contains c) = lowB := funext abc_low
  unfold Lib.trimS Lib.trimLeftS Lib.trimRightS
  rw [e]
  have h : (l.reverse.dropWhile lowB).reverse.all lowB = l.all lowB := by
    rw [List.all_reverse, ← all_append_dropWhile, List.all_reverse]
  rw [← h]
  rw [Bool.eq_iff_iff, List.isEmpty_iff, dropWhile_nil]

set_option maxHeartbeats 400000 in
set_option maxRecDepth 100000 in
theorem rkeyR_any (s : ByteArray) (w : World) : Calls Tryd.prog 49 #[.string s] w fun e w' => e = .returned (.bool (keyB s)) ∧ Below w.heap.size w w' := by
  by_cases hin : 1 ≤ s.size ∧ s.size ≤ 6
  · have hcon := Any.strings_Trim_laid Tryd.trim (by kernel_rfl) s ⟨#[97, 98, 99, 100, 101, 102, 103, 104, 105, 106, 107, 108, 109, 110, 111, 112, 113, 114, 115, 116, 117, 118, 119, 120, 121, 122]⟩ w (by omega) (by decide) (ascii_of_all (by decide))
    change Calls Tryd.prog 54 _ _ (fun e w' => e = .returned (.string ⟨(Lib.trimS s.data.toList abcL).toArray⟩) ∧ Below w.heap.size w w') at hcon
    have ht := trim_nil s.data.toList
    have hk : keyB s = (⟨(Lib.trimS s.data.toList abcL).toArray⟩ : ByteArray).toList.isEmpty := by
      rw [ByteArray.toList_eq]
      show keyB s = (Lib.trimS s.data.toList abcL).isEmpty
      rw [ht]; simp [keyB, hin.1, hin.2]
    generalize (⟨(Lib.trimS s.data.toList abcL).toArray⟩ : ByteArray) = r at hcon hk
    have HC := hideP hcon
    have HK := hideP hk
    clear hcon hk ht
    go_enter Tryd.func49, Tryd.ntmps49
    go_wp2_with fail
    refine (rwithin_any _ _ _ _).mono ?_
    rintro e w' ⟨rfl, rfl⟩
    rw [show (decide ((1 : Int) ≤ (s.size : Int)) && decide ((s.size : Int) ≤ 6)) = true by simp; omega]
    cases hr : r.toList.isEmpty
    · go_wp2_with fail
      refine HC.out.mono ?_
      rintro e w1 ⟨rfl, hb⟩
      go_wp2_with fail
      go_ret
      exact ⟨ret_bool (by rw [HK.out, hr]), hb⟩
    · go_wp2_with fail
      refine HC.out.mono ?_
      rintro e w1 ⟨rfl, hb⟩
      go_wp2_with fail
      go_ret
      exact ⟨ret_bool (by rw [HK.out, hr]), hb⟩
  · have hk : keyB s = false := by
      cases h : keyB s
      · rfl
      · simp [keyB] at h; exact absurd h.1 hin
    have HK := hideP hk
    clear hk
    go_enter Tryd.func49, Tryd.ntmps49
    go_wp2_with fail
    refine (rwithin_any _ _ _ _).mono ?_
    rintro e w' ⟨rfl, rfl⟩
    rw [show (decide ((1 : Int) ≤ (s.size : Int)) && decide ((s.size : Int) ≤ 6)) = false by rw [Bool.eq_false_iff]; simp; omega]
    go_wp2_with fail
    go_ret
    exact ⟨ret_bool HK.out.symm, Below.refl _ _⟩
end Go.Proofs.YtcjfkbponikadaaDoor
