/-
  roref.within, Key and Value: what they answer.
  The document's Merge as a state; Is and Rounds.
  sort.Slice of pairs by their keys, as roref.List calls it.
  Keys of maps, boxed variables (no body of the program in it).
-/
import Derived.Test.YtefdipjhjgmokaaGreatDoorBx27
import Derived.Test.YtefdipjhjgmokaaGreatDoorBx5
import Derived.Shelf.Strings.SlTrimAscii
import Derived.Test.YtefdipjhjgmokaaGreatDoorBx6
import Derived.Lib.MinMax
import Derived.Test.YtefdipjhjgmokaaGreatDoorBx8
import Derived.Test.YtefdipjhjgmokaaGreatDoorBx1
import Derived.Shelf.GgSortFunc.Tiny
import Derived.WalkKit
import Derived.WalkSpells
import Derived.WalkLawsBesides
import Derived.Deep.QuietTactic
import Derived.BigQuiet
import Derived.Test.YtefdipjhjgmokaaGreatDoorProg
import Derived.Maps.Own
import Derived.Maps.OwnOps
import Derived.Maps.OwnSet
set_option linter.unusedVariables false
set_option linter.unusedSimpArgs false
namespace Go.Proofs.YtefdipjhjgmokaaGreatDoor
open Go.RowKit Go.WideMaps Go.Maps

set_option maxHeartbeats 400000 in
theorem rwithin_any (x a b : Int) (w : World) :
    Calls Tryz.prog 108 #[.int .i64 x, .int .i64 a, .int .i64 b] w fun e w' => e = .returned (.bool (decide (a ≤ x) && decide (x ≤ b))) ∧ w = w' := by
  by_cases h1 : a ≤ x <;> by_cases h2 : x ≤ b
  all_goals
    go_enter Tryz.func108, Tryz.ntmps108
    go_wp2
    go_ret
    exact ⟨ret_bool (by simp [h1, h2]), rfl⟩

set_option maxHeartbeats 400000 in
theorem rvalue_any (n : Int) (w : World) : Calls Tryz.prog 109 #[.int .i64 n] w fun e w' => e = .returned (.bool (valB n)) ∧ w = w' := by
  go_enter Tryz.func109, Tryz.ntmps109
  go_wp2_with fail
  refine (rwithin_any n (-1000000000) 1000000000 _).mono ?_
  rintro e w' ⟨rfl, rfl⟩
  rw [show (decide ((-1000000000 : Int) ≤ n) && decide (n ≤ 1000000000)) = valB n from rfl]
  go_wp2_with fail
  go_ret
  exact ⟨rfl, rfl⟩

def abcL : List UInt8 := [97, 98, 99, 100, 101, 102, 103, 104, 105, 106, 107, 108, 109, 110, 111, 112, 113, 114, 115, 116, 117, 118, 119, 120, 121, 122]
theorem abc_low : ∀ c : UInt8, abcL.contains c = lowB c := by
  have h : ∀ n : Fin 256, abcL.contains (UInt8.ofNat n.val) = lowB (UInt8.ofNat n.val) := by decide +kernel
  intro c
  have := h ⟨c.toNat, c.toNat_lt⟩
  simpa using this
theorem dropWhile_nil {p : UInt8 → Bool} {l : List UInt8} : l.dropWhile p = [] ↔ l.all p = true := by
  induction l with
  | nil => simp
  | cons a r ih => cases h : p a <;> simp [List.dropWhile_cons, h, ih]
theorem all_append_dropWhile {p : UInt8 → Bool} (l : List UInt8) : l.all p = (l.dropWhile p).all p := by
  induction l with
  | nil => rfl
  | cons a r ih => cases h : p a <;> simp [List.dropWhile_cons, h, ih]
theorem trim_nil (l : List UInt8) : (Lib.trimS l abcL).isEmpty = l.all lowB := by
  have e : (fun c => abcL.contains c) = lowB := funext abc_low
  unfold Lib.trimS Lib.trimLeftS Lib.trimRightS
  rw [e]
  have h : (l.reverse.dropWhile lowB).reverse.all lowB = l.all lowB := by
    rw [List.all_reverse, ← all_append_dropWhile, List.all_reverse]
  rw [← h]
  rw [Bool.eq_iff_iff, List.isEmpty_iff, dropWhile_nil]

set_option maxHeartbeats 400000 in
set_option maxRecDepth 100000 in
theorem rkeyR_any (s : ByteArray) (w : World) : Calls Tryz.prog 105 #[.string s] w fun e w' => e = .returned (.bool (keyB s)) ∧ Below w.heap.size w w' := by
  by_cases hin : 1 ≤ s.size ∧ s.size ≤ 6
  · have hcon := Any.strings_Trim_laid Tryz.trim (by kernel_rfl) s ⟨#[97, 98, 99, 100, 101, 102, 103, 104, 105, 106, 107, 108, 109, 110, 111, 112, 113, 114, 115, 116, 117, 118, 119, 120, 121, 122]⟩ w (by omega) (by decide) (ascii_of_all (by decide))
    change Calls Tryz.prog 153 _ _ (fun e w' => e = .returned (.string ⟨(Lib.trimS s.data.toList abcL).toArray⟩) ∧ Below w.heap.size w w') at hcon
    have ht := trim_nil s.data.toList
    have hk : keyB s = (⟨(Lib.trimS s.data.toList abcL).toArray⟩ : ByteArray).toList.isEmpty := by
      rw [ByteArray.toList_eq]
      show keyB s = (Lib.trimS s.data.toList abcL).isEmpty
      rw [ht]; simp [keyB, hin.1, hin.2]
    generalize (⟨(Lib.trimS s.data.toList abcL).toArray⟩ : ByteArray) = r at hcon hk
    have HC := hideP hcon
    have HK := hideP hk
    clear hcon hk ht
    go_enter Tryz.func105, Tryz.ntmps105
    go_wp2_with fail
    refine (rwithin_any _ _ _ _).mono ?_
    rintro e w' ⟨rfl, rfl⟩
    rw [show (decide ((1 : Int) ≤ (s.size : Int)) && decide ((s.size : Int) ≤ 6)) = true by simp; omega]
    cases hr : r.toList.isEmpty
    · go_wp2_with fail
      refine HC.out.mono ?_
      rintro e w1 ⟨rfl, hb⟩
      go_wp2_with fail
      go_ret
      exact ⟨ret_bool (by rw [HK.out, hr]), hb⟩
    · go_wp2_with fail
      refine HC.out.mono ?_
      rintro e w1 ⟨rfl, hb⟩
      go_wp2_with fail
      go_ret
      exact ⟨ret_bool (by rw [HK.out, hr]), hb⟩
  · have hk : keyB s = false := by
      cases h : keyB s
      · rfl
      · simp [keyB] at h; exact absurd h.1 hin
    have HK := hideP hk
    clear hk
    go_enter Tryz.func105, Tryz.ntmps105
    go_wp2_with fail
    refine (rwithin_any _ _ _ _).mono ?_
    rintro e w' ⟨rfl, rfl⟩
    rw [show (decide ((1 : Int) ≤ (s.size : Int)) && decide ((s.size : Int) ≤ 6)) = false by rw [Bool.eq_false_iff]; simp; omega]
    go_wp2_with fail
    go_ret
    exact ⟨ret_bool HK.out.symm, Below.refl _ _⟩
end Go.Proofs.YtefdipjhjgmokaaGreatDoor

set_option linter.unusedVariables false
set_option linter.unusedSimpArgs false
namespace Go.Proofs.YtefdipjhjgmokaaGreatDoor
open Go.RowKit

/-- the document's Merge: where it lies -/
structure Rs where
  g : Nat
  AI : Option Addr
  cI : Nat
  ins : List In
def Rs.F (s : Rs) (k : Nat) : Prop := CF s.g s.AI s.ins k
def Rs.ct (s : Rs) : List (List (List Ent)) := ctM s.ins
structure Rs.Ok (s : Rs) (w0 w : World) (B : Nat) : Prop where
  rg : RG w0 w B s.g s.AI s.cI s.ins
  gm : Gm s.ins (totM (ctM s.ins))
  be : Below w0.heap.size w0 w
  lb : w0.heap.size ≤ B
/-- a step of it -/
structure Rs.To (s : Rs) (w0 w : World) (B : Nat) (s' : Rs) (w' : World) (ct' : List (List (List Ent))) : Prop where
  g : s'.g = s.g
  ok : s'.Ok w0 w' B
  ct : s'.ct = ct'
  fr : Fr s.F w w'
  F : ∀ k, s'.F k → s.F k ∨ w.heap.size ≤ k
section
variable {s s' s2 : Rs} {w0 w w1 w' : World} {B B' : Nat} {ct' ct2 : List (List (List Ent))}
theorem Rs.Ok.below (h : s.Ok w0 w B) (hb : Below w.heap.size w w') : s.Ok w0 w' B := ⟨h.rg.below hb, h.gm, h.be.trans (hb.mono h.be.size), h.lb⟩
theorem Rs.Ok.lo (h : s.Ok w0 w B) {k : Nat} (hk : s.F k) : B ≤ k ∧ k < w.heap.size := (h.rg.cf_ty hk).2
theorem Rs.Ok.size (h : s.Ok w0 w B) : B ≤ w.heap.size := by have := h.rg.low; have := h.rg.box.lt; omega
theorem Rs.Ok.fr {F : Nat → Prop} (h : s.Ok w0 w B) (hf : Fr F w w') (hd : ∀ q, s.F q → ¬ F q) (hF : ∀ q, F q → w0.heap.size ≤ q) : s.Ok w0 w' B := ⟨h.rg.fr hf hd, h.gm, hf.below hF h.be.size h.be, h.lb⟩
theorem Rs.To.same (h : s.Ok w0 w B) (hb : Below w.heap.size w w') : s.To w0 w B s w' s.ct := ⟨rfl, h.below hb, rfl, .of_below hb, fun _ => .inl⟩
theorem Rs.To.post (h : s.To w0 w B s' w1 ct') (hb : Below w1.heap.size w1 w') : s.To w0 w B s' w' ct' := ⟨h.g, h.ok.below hb, h.ct, h.fr.comp (.of_below hb), h.F⟩
theorem Rs.To.pre (h : s.To w0 w1 B s' w' ct') (hb : Below w.heap.size w w1) : s.To w0 w B s' w' ct' := ⟨h.g, h.ok, h.ct, (Fr.of_below hb).comp h.fr, fun k hk => (h.F k hk).imp id fun e => Nat.le_trans hb.size e⟩
theorem Rs.Ok.off (h : s.Ok w0 w B) {t : TypeId} (h1 : t ≠ 169) (h2 : t ≠ 170) (h3 : t ≠ 26) (h4 : t ≠ 42) : Off s.F w t := h.rg.off h1 h2 h3 h4
theorem Rs.To.below_ {a : World} {B0 : Nat} (h : s.To w0 w B s' w' ct') (ho : s.Ok w0 w B) (hB : B0 ≤ B) (hb : Below B0 a w) : Below B0 a w' := h.fr.below (fun k hk => Nat.le_trans hB (ho.lo hk).1) (Nat.le_trans hB ho.size) hb
end
set_option maxRecDepth 100000 in
theorem ris_any (s : Rs) (w0 : World) (B : Nat) (i : Int) (w : World) (h : s.Ok w0 w B) :
    Calls Tryz.prog 110 #[.pointer (some ⟨s.g, 0, none⟩), .int .i64 i] w fun e w' => e = .returned (.bool (decide (0 ≤ i ∧ i < (s.ct.length : Int)))) ∧ w = w' := by
  have c0 := h.rg.box.cell 0 (v := .slice s.AI s.ins.length s.cI) rfl
  have hlen : s.ct.length = s.ins.length := by simp [Rs.ct, ctM]
  have hf := h.gm.few
  have HE := hideP (show (decide (0 ≤ i) && decide (i ≤ (s.ins.length : Int) - 1)) = decide (0 ≤ i ∧ i < (s.ct.length : Int)) by
    rw [hlen]
    by_cases h1 : 0 ≤ i <;> by_cases h2 : i < (s.ins.length : Int)
    all_goals simp [h1, h2] <;> omega)
  have pw : IntKind.i64.wrap ((s.ins.length : Int) - 1) = (s.ins.length : Int) - 1 := by simp only [IntKind.wrap_i64]; omega
  clear h hlen
  generalize decide (0 ≤ i ∧ i < (s.ct.length : Int)) = d at HE ⊢
  go_enter Tryz.func110, Tryz.ntmps110
  go_wp2_with fail
  refine (rwithin_any _ _ _ _).mono ?_
  rintro e w' ⟨rfl, rfl⟩
  rw [HE.out]
  go_wp2_with fail
  go_ret
  exact ⟨rfl, rfl⟩
theorem cl_le {ins : List In} {k q : Nat} (h : (cloL (ctM ins))[k]? = some q) : k < ins.length := by
  have := (List.getElem?_eq_some_iff.1 h).1
  rw [clo_ct, List.length_map] at this
  exact this
set_option maxHeartbeats 1000000 in
set_option maxRecDepth 100000 in
theorem rrounds_any (s : Rs) (w0 : World) (B : Nat) (w : World) (h : s.Ok w0 w B) :
    Calls Tryz.prog 57 #[.pointer (some ⟨s.g, 0, none⟩)] w fun e w' => e = .returned (.int .i64 (rndM s.ct : Nat)) ∧ w = w' := by
  have c0 := h.rg.box.cell 0 (v := .slice s.AI s.ins.length s.cI) rfl
  have HEND := hideP (show ((cloL s.ct).take s.ins.length).foldl min 60 = rndM s.ct by
    unfold rndM Rs.ct; rw [List.take_of_length_le (by rw [clo_ct, List.length_map]; exact Nat.le_refl _)])
  have HCE := hideP (fun (k : Nat) (hk : k < s.ins.length) => show ∃ (gi : Nat) (A : Option Addr) (n c q : Nat), s.AI = some ⟨gi, 0, none⟩ ∧ w.cell? ⟨gi, k, none⟩ = some (.slice A n c) ∧ n = q + 1 ∧ n ≤ 61 ∧ ((cloL s.ct).take (k + 1)).foldl min 60 = min (((cloL s.ct).take k).foldl min 60) q from by
    obtain ⟨x, hx⟩ : ∃ x, s.ins[k]? = some x := ⟨_, List.getElem?_eq_getElem hk⟩
    obtain ⟨gi, e, hc⟩ := h.rg.cell_ hx
    obtain ⟨q, hq⟩ := h.rg.pos hx
    have hcl : (cloL s.ct)[k]? = some q := by unfold Rs.ct; rw [clo_ct, List.getElem?_map, hx]; simp [hq]
    refine ⟨gi, _, _, _, q, e, hc, hq, h.gm.bs _ x hx, ?_⟩
    have hl : k < (cloL s.ct).length := (List.getElem?_eq_some_iff.1 hcl).1
    rw [List.take_succ_eq_append_getElem hl, List.foldl_append]
    rw [List.getElem?_eq_getElem hl] at hcl
    injection hcl with hcl
    rw [hcl]
    rfl)
  have hfew := h.gm.few
  generalize cloL s.ct = cl at HEND HCE
  generalize rndM s.ct = rr at HEND ⊢
  clear h
  go_enter Tryz.func57, Tryz.ntmps57
  go_wp2_with fail
  go_loop [3, 11] (fun v i => ∃ k : Nat, k ≤ s.ins.length ∧ i = .int .i64 k ∧ v = .int .i64 ((cl.take k).foldl min 60 : Nat)) (fun _ i => s.ins.length - (intOf i).toNat)
  case atStart => exact ⟨0, Nat.zero_le _, rfl, rfl⟩
  case round =>
    obtain ⟨k, hk, rfl, rfl⟩ := hrel
    by_cases hlt : k < s.ins.length
    · obtain ⟨gi, A, n, c, q, hAI, hc, hq, hn, hst⟩ := HCE.out k hlt
      rw [hAI] at c0 ⊢
      have HS := hideP hst
      have pw : IntKind.i64.wrap ((n : Int) - 1) = (q : Int) := by simp only [IntKind.wrap_i64]; omega
      clear hst hq hAI
      generalize (cl.take k).foldl min 60 = z at HS ⊢
      have g2 : (0 : Int) ≤ (k : Int) := by omega
      have g3 : (k : Int) < (s.ins.length : Int) := by omega
      go_wp2_with fail
      go_round
      case rel => exact ⟨k + 1, by omega, by go_num, by rw [HS.out]; congr 1; omega⟩
      case measure => simp [intOf]; omega
    · obtain rfl : k = s.ins.length := by omega
      rw [HEND.out]
      go_wp2_with fail
      go_ret
      exact ⟨rfl, rfl⟩
end Go.Proofs.YtefdipjhjgmokaaGreatDoor

set_option linter.unusedVariables false
set_option linter.unusedSimpArgs false
namespace Go.Proofs.YtefdipjhjgmokaaGreatDoor
open Go.RowKit Go.Shelf Go.Sort

def encP (p : Pr) : List Value := [.string p.1, .int .i64 p.2]
def ltP (p q : Pr) : Bool := ltB p.1 q.1
theorem swo_ltP : SWO ltP where
  irrefl := fun x => ltB_irrefl _
  trans := fun x y z h1 h2 => ltB_trans h1 h2
  ntrans := fun x y z h1 h2 => by
    unfold ltP at *
    cases h : ltB x.1 z.1
    · rfl
    · cases h3 : ltB z.1 y.1
      · have e := ltB_total h2 h3
        rw [← e, h1] at h; cases h
      · have := ltB_trans h h3
        rw [h1] at this; cases this

noncomputable def svT : TypeInfo := (Tryz.prog.info? 36).get (by kernel_rfl)
noncomputable def svE : TypeInfo := (Tryz.prog.info? 63).get (by kernel_rfl)
theorem svK (n : Nat) (h2 : 2 ≤ n) : Lib.swapperK n svE 25 = 9 := by
  have a : svE.hasPointers = true := by kernel_rfl
  have b : svE.bytes = 24 := by kernel_rfl
  have c : (n == 0) = false := by simp; omega
  have d : (n == 1) = false := by simp; omega
  simp [Lib.swapperK, a, b, c, d]

set_option maxHeartbeats 1000000 in
theorem less_any (blk c Bs size : Nat) (W : World) (G : Nat → ByteArray) (hs : W.cell? ⟨Bs, 0, none⟩ = some (.slice (some ⟨blk, 0, none⟩) size c))
    (hc : ∀ t, t < size → W.cell? ⟨blk, t * 2, none⟩ = some (.string (G t))) (i j : Nat) (hi : i < size) (hj : j < size) (_hsz : size < 4611686018427387904) :
    Calls Tryz.prog 115 #[.int .i64 i, .int .i64 j, .pointer (some ⟨Bs, 0, none⟩)] W fun e w' => e = .returned (.bool (ltB (G i) (G j))) ∧ ∃ q, w' = W.drewN q := by
  have ci := hc i hi
  have cj := hc j hj
  clear hc
  generalize G i = gi at ci
  generalize G j = gj at cj
  go_enter Tryz.func115, Tryz.ntmps115
  go_wp2
  go_quiet (fail)
  go_wp2
  go_ret
  exact ⟨rfl, nq, rfl⟩

theorem holdsP {w : World} {g : Nat} {cur : Array Value} {e : TypeId} {xs : List Pr} (hb : w.heap[g]? = some (.cells cur e (0, 0))) (ht : cur.toList.take (xs.length * 2) = cellsOf xs) : HoldsK encP 2 w g 0 xs.toArray := by
  intro j hj
  rw [size_flatK] at hj
  have hj' : j < xs.length * 2 := by simpa using hj
  refine ⟨?_, by simp [World.frozen?, hb]⟩
  rw [get_flatK _ _ _ _ hj]
  have h1 : (cur.toList.take (xs.length * 2))[j]? = (cellsOf xs)[j]? := by rw [ht]
  rw [List.getElem?_take_of_lt hj'] at h1
  simp only [World.cell?, hb, Nat.zero_add]
  have hi : j / 2 < xs.length := by omega
  have hg := cellsOf_get xs (j / 2) _ (List.getElem?_eq_getElem hi)
  have e1 : cur[j]? = (cellsOf xs)[j]? := by rw [← h1]; simp
  rw [e1]
  have e2 : xs.toArray[j / 2]! = xs[j / 2] := by simp [hi]
  rw [e2]
  rcases Nat.mod_two_eq_zero_or_one j with hm | hm
  · have : j / 2 * 2 = j := by omega
    rw [this] at hg
    rw [hm, hg.1]; rfl
  · have : j / 2 * 2 + 1 = j := by omega
    rw [this] at hg
    rw [hm, hg.2]; rfl

/-- what the sort leaves -/
def Sorted (w : World) (blk : Nat) (xs : List Pr) (e : Ending) (w' : World) : Prop :=
  e = .returned (.tuple #[]) ∧ ∃ ys : List Pr, ys.Perm xs ∧ ys.Pairwise (fun p q => ltB q.1 p.1 = false) ∧ PS w' w'.heap.size (some ⟨blk, 0, none⟩) ys ∧ w.grownBy w' (some blk)

theorem sort_many (blk c Bs : Nat) (xs : List Pr) (h2 : 2 ≤ xs.length) (hsz : xs.length < 4611686018427387904) (w : World) (hH : HoldsK encP 2 w blk 0 xs.toArray) (hblk : blk < w.heap.size)
    (hBs : w.cell? ⟨Bs, 0, none⟩ = some (.slice (some ⟨blk, 0, none⟩) xs.length c)) (hB1 : Bs < w.heap.size) (hB2 : Bs ≠ blk) :
    Calls Tryz.prog 114 #[.iface 36 (.slice (some ⟨blk, 0, none⟩) xs.length c), .func (.func 115) #[] #[.pointer (some ⟨Bs, 0, none⟩)]] w (Sorted w blk xs) := by
  have hless : LessReadsK Tryz.prog 115 #[.pointer (some ⟨Bs, 0, none⟩)] encP 2 ltP blk 0 xs.toArray.size w := by
    intro m os dk hs i j hi hj
    have e : sortWorldK encP 2 w blk 0 m dk os = putRowK encP 2 (grow (Sort.ahead w m) os) blk 0 dk := by
      unfold sortWorldK; rw [putRowK_grow _ _ (Sort.ahead w m) _ blk 0 _ hblk]
    have hHg : HoldsK encP 2 (grow (Sort.ahead w m) os) blk 0 xs.toArray := holdsK_grow _ _ _ _ blk 0 _ hblk (holdsK_ahead _ _ _ _ _ _ _ hH)
    refine less_any blk c Bs xs.toArray.size _ (fun t => dk[t]!.1) ?_ (fun t ht => ?_) i j hi hj (by simpa using hsz)
    · rw [e, cell?_putRowK_other _ _ _ blk 0 dk _ (by exact hB2), cell?_grow _ _ _ (by exact hB1)]; exact hBs
    · rw [e]
      have := ((holdsK_putRowK _ _ _ blk 0 xs.toArray dk hHg hs).cell (i := t) (c := 0) (by omega) (by omega)).1
      simpa [encP] using this
  have hS := Any.sort_Slice_cells_sorted Tryz.sv6 36 63 svT svE (by kernel_rfl) (by kernel_rfl) (by kernel_rfl) (by kernel_rfl) 25 (fun _ => by kernel_rfl) encP 2 (fun _ => rfl) (by kernel_rfl) (fun _ => by kernel_rfl)
    (fun x v hv => by simp [encP] at hv; rcases hv with rfl | rfl <;> rfl) ltP swo_ltP 115 #[.pointer (some ⟨Bs, 0, none⟩)]
    (enters_of Tryz.func115 (by kernel_rfl) rfl) blk 0 c xs.toArray (by simpa using h2) (by simpa using hsz) 205 (by rw [show xs.toArray.size = xs.length by simp, svK _ h2]; kernel_rfl) false
    (fun args W => run_callFunc_extern Tryz.func205 (by kernel_rfl) (by kernel_rfl) (by kernel_rfl) (e := Extern.ReflectliteSwapper.swap false) (by kernel_rfl) args W) w hless hH hblk
  change Calls Tryz.prog 114 _ _ _ at hS
  rw [show xs.toArray.size = xs.length by simp] at hS
  refine hS.mono ?_
  rintro e w' ⟨rfl, d', n, os, ⟨hps, _, hpp⟩, hso, rfl⟩
  have hps' : d'.size = xs.length := by simpa using hps
  refine ⟨rfl, d'.toList, ?_, ?_, ?_, ?_⟩
  · have e1 : d'.extract 0 xs.length = d' := by rw [← hps']; simp
    have e2 : xs.toArray.extract 0 xs.length = xs.toArray := by simp
    rw [e1, e2] at hpp
    simpa using hpp
  · rw [List.pairwise_iff_getElem]
    intro i j hi hj hij
    have := hso i j (Nat.zero_le _) hij (by simpa [hps'] using hj)
    simp only [Array.length_toList] at hi hj
    simpa [ltP, hi, hj] using this
  · intro i p hp
    have hi : i < d'.size := by
      rcases Nat.lt_or_ge i d'.size with h | h
      · exact h
      · simp [h] at hp
    have hp' : d'[i]! = p := by simp [hi] at hp; simp [hi, hp]
    have e : grow (putRowK encP 2 (Sort.ahead w n) blk 0 d') os = putRowK encP 2 (grow (Sort.ahead w n) os) blk 0 d' := by
      rw [putRowK_grow _ _ (Sort.ahead w n) _ blk 0 _ hblk]
    have hHg : HoldsK encP 2 (grow (Sort.ahead w n) os) blk 0 xs.toArray := holdsK_grow _ _ _ _ blk 0 _ hblk (holdsK_ahead _ _ _ _ _ _ _ hH)
    have hK := holdsK_putRowK _ _ _ blk 0 xs.toArray d' hHg hps
    have c0 := (hK.cell (i := i) (c := 0) hi (by omega)).1
    have c1 := (hK.cell (i := i) (c := 1) hi (by omega)).1
    rw [← e, hp'] at c0 c1
    refine ⟨blk, 0, rfl, ?_, by simpa [encP] using c0, by simpa [encP] using c1⟩
    have : (Sort.ahead w n).heap.size = w.heap.size := rfl
    simp [grow, putRowK, putRow, mapBlock, this]
    omega
  · refine ⟨rfl, rfl, rfl, by simp [grow, putRowK, putRow, mapBlock, Sort.ahead], fun k hk hne => ?_⟩
    have hne' : blk ≠ k := fun e => hne (by rw [e])
    rw [heap_grow_old _ _ (by simpa [putRowK, putRow, mapBlock, Sort.ahead] using hk)]
    simp [putRowK, putRow, mapBlock, Sort.ahead, Array.getElem?_modify, hne']
/-- what the sort leaves, of a row of the call's own -/
def SortedRow (w : World) (v : Value) (xs : List Pr) (e : Ending) (w' : World) : Prop :=
  e = .returned (.tuple #[]) ∧ ∃ ys : List Pr, ys.Perm xs ∧ ys.Pairwise (fun p q => ltB q.1 p.1 = false) ∧ (∃ A c, v = .slice A ys.length c ∧ SV w' A c ys) ∧ w.grownBy w' v.ownBlock

theorem sv0 : Lib.swapperK 0 svE 25 = 1 := by simp [Lib.swapperK]
theorem sv1 : Lib.swapperK 1 svE 25 = 2 := by simp [Lib.swapperK]
theorem sort_tiny (p : Option Addr) (n c : Nat) (h1 : n ≤ 1) (Bs : Nat) (w : World) :
    Calls Tryz.prog 114 #[.iface 36 (.slice p n c), .func (.func 115) #[] #[.pointer (some ⟨Bs, 0, none⟩)]] w fun e w' => e = .returned (.tuple #[]) ∧ ∃ os, w' = grow w os := by
  rcases (show n = 0 ∨ n = 1 by omega) with rfl | rfl
  · exact Any.sort_Slice_tiny Tryz.sv6 36 63 svT svE (by kernel_rfl) (by kernel_rfl) (by kernel_rfl) (by kernel_rfl) 25 (fun _ => by kernel_rfl) p 0 c h1 197 (by rw [sv0]; kernel_rfl) _ _ _ w
  · exact Any.sort_Slice_tiny Tryz.sv6 36 63 svT svE (by kernel_rfl) (by kernel_rfl) (by kernel_rfl) (by kernel_rfl) 25 (fun _ => by kernel_rfl) p 1 c h1 198 (by rw [sv1]; kernel_rfl) _ _ _ w

theorem grown_grow (w : World) (os : Array Obj) (row : Option Nat) : w.grownBy (grow w os) row := ⟨rfl, rfl, rfl, by simp [grow], fun k hk _ => heap_grow_old _ _ hk⟩
theorem SV.kept {w w' : World} {A : Option Addr} {c : Nat} {l : List Pr} (h : SV w A c l) (hg : w.grownBy w' none) : SV w' A c l :=
  h.below ⟨hg.os, hg.tape, hg.output, hg.size, fun k hk => hg.block k hk (by simp)⟩
theorem perm_one {xs : List Pr} (h : xs.length ≤ 1) : xs.Pairwise (fun p q => ltB q.1 p.1 = false) := by
  match xs, h with
  | [], _ => exact List.Pairwise.nil
  | [p], _ => simp

theorem sort_any (base Bs : Nat) (v : Value) (xs : List Pr) (w : World) (hown : w.ownsRow base 63 2 v xs.length (cellsOf xs)) (hsz : xs.length < 4611686018427387904)
    (hBs : w.cell? ⟨Bs, 0, none⟩ = some v) (hB1 : Bs < w.heap.size) (hB2 : v.ownBlock ≠ some Bs) :
    Calls Tryz.prog 114 #[.iface 36 v, .func (.func 115) #[] #[.pointer (some ⟨Bs, 0, none⟩)]] w (SortedRow w v xs) := by
  by_cases h2 : 2 ≤ xs.length
  · rcases hown.2 with ⟨_, h0⟩ | ⟨g, cap, cur, rfl, hbase, hb, h3, h4, h5, h6⟩
    · omega
    · have hgl : g < w.heap.size := (Array.getElem?_eq_some_iff.1 hb).1
      refine (sort_many g cap Bs xs h2 hsz w (holdsP hb h6) hgl hBs hB1 (fun e => hB2 (by simp [Value.ownBlock, e]))).mono ?_
      rintro e w' ⟨rfl, ys, hp, hs, hps, hg⟩
      refine ⟨rfl, ys, hp, hs, ⟨some ⟨g, 0, none⟩, cap, by rw [hp.length_eq], hps, by rw [hp.length_eq]; exact h3, h4, (fun e => by cases e), (fun _ a ha => by injection ha with ha; exact ⟨g, 0, ha.symm⟩)⟩, hg⟩
  · obtain ⟨A, c, rfl, hsv⟩ := SV.of_own hown
    refine (sort_tiny A xs.length c (by omega) Bs w).mono ?_
    rintro e w' ⟨rfl, os, rfl⟩
    exact ⟨rfl, xs, List.Perm.refl _, perm_one (by omega), ⟨A, c, rfl, hsv.kept (grown_grow w os none)⟩, grown_grow w os _⟩
end Go.Proofs.YtefdipjhjgmokaaGreatDoor

set_option linter.unusedVariables false
set_option linter.unusedSimpArgs false
namespace Go.Proofs.YtefdipjhjgmokaaGreatDoor
open Go.RowKit Go.Maps

/-- a key as a map's key -/
def kl (k : ByteArray) : Lit := .string k.data.toList
theorem kl_inj {a b : ByteArray} (h : kl a = kl b) : a = b := by
  unfold kl at h; injection h with h; exact by8_inj h
theorem same_kl {a b : ByteArray} (h : (kl a).sameKey (kl b) = true) : a = b := kl_inj (WideAt.sameKey_eq h)
theorem grown_setCell (w : World) (p : Addr) (u : Value) : w.grownBy (w.setCell p u) (some p.block) :=
  ⟨rfl, rfl, rfl, by simp [World.setCell], fun i _ hne => Below.heap_setCell w p u i (fun e => hne (by rw [e]))⟩
theorem box_set {w : World} {g : Nat} {v u : Value} {t : TypeId} (h : w.heap[g]? = some (.cells #[v] t)) : (w.setCell ⟨g, 0, none⟩ u).heap[g]? = some (.cells #[u] t) := by
  simp [World.setCell, Array.getElem?_modify, h]
theorem law9 : Keyed Tryz.prog 9 := string_keyed Tryz.underlying9
end Go.Proofs.YtefdipjhjgmokaaGreatDoor
