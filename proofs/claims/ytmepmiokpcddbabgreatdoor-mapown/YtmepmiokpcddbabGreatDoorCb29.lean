/-
  rokeep.MapOwn: contracts in its words.
  rokeep.MapOwn: rows of maps, and lists of rows (no body of the program in it).
-/
import Derived.Test.YtmepmiokpcddbabGreatDoorCb15
import Derived.Test.YtmepmiokpcddbabGreatDoorCb17
import Derived.Test.YtmepmiokpcddbabGreatDoorCb18
import Derived.Test.YtmepmiokpcddbabGreatDoorCb25
import Derived.Test.YtmepmiokpcddbabGreatDoorCb28
set_option linter.unusedVariables false
set_option linter.unusedSimpArgs false
namespace Go.Proofs.YtmepmiokpcddbabGreatDoor
open Go.RowKit

section
variable {w W : World} {m n : Mp} {gm : Nat} {x y z : Option Nat} {v0 v1 : Value}
theorem mo_roomS (K : MoRg w gm m x none z W) (hm : MS w m) (hn : m.cs.length * 16 ≤ 140737488351232) :
    Calls Tryz.prog 30 #[.slice m.A m.cs.length m.ca, .string ⟨#[109, 97, 114, 107]⟩] W fun e w' => ∃ g, e = .returned (.slice (some ⟨g, 0, none⟩) m.cs.length (m.cs.length + 3)) ∧ MoRg w gm m x (some g) z w' := by
  have hm' := hm.below K.be
  have hr := roomyS_any m.A m.ca (m.cs.map Value.string) ⟨#[109, 97, 114, 107]⟩ W hm'.cuts (by rw [List.length_map]; exact hm'.lc) hm'.nc (by simp [Value.oneCell']) (by rw [List.length_map]; exact hn)
  rw [List.length_map] at hr
  refine hr.mono ?_
  rintro e w' ⟨g, rfl, ho, hb⟩
  rw [List.length_map] at ho ⊢
  exact ⟨g, rfl, K.addS hb ho⟩
theorem mo_roomI (K : MoRg w gm m x y none W) (hm : MS w m) (hn : m.os.length * 8 ≤ 140737488351232) :
    Calls Tryz.prog 31 #[.slice m.O m.os.length m.co, .int .i64 (-7)] W fun e w' => ∃ g, e = .returned (.slice (some ⟨g, 0, none⟩) m.os.length (m.os.length + 3)) ∧ MoRg w gm m x y (some g) w' := by
  have hm' := hm.below K.be
  have hr := roomyI_any m.O m.co (m.os.map (Value.int .i64)) (-7) W hm'.own.vs (by rw [List.length_map]; exact hm'.lo) hm'.no (by simp [Value.oneCell']) (by rw [List.length_map]; exact hn)
  rw [List.length_map] at hr
  refine hr.mono ?_
  rintro e w' ⟨g, rfl, ho, hb⟩
  rw [List.length_map] at ho ⊢
  exact ⟨g, rfl, K.addI hb ho⟩
theorem mo_key (K : MoRm w gm v0 v1 x W) (k : Int) : Calls Tryz.prog 35 #[.int .i64 k] W fun e w' => e = .returned (.string (keyN (wi k 8))) ∧ MoRm w gm v0 v1 x w' :=
  (rkey_be k W).mono fun e w' ⟨h, hb⟩ => ⟨h, K.below hb⟩
theorem mo_cut (K : MoRm w gm v0 v1 x W) (key : ByteArray) (hm : MS w n) (l2 : n.os.length ≤ 9223372036854775807) :
    Calls Tryz.prog 34 #[.agg #[.slice n.A n.cs.length n.ca, .slice n.O n.os.length n.co], .string key] W fun e w' => ∃ r : Mp, e = .returned (.tuple #[.agg #[.slice r.A r.cs.length r.ca, .slice r.O r.os.length r.co], .int .i64 (cutV n.cs n.os key).2]) ∧
      r.cs = (cutV n.cs n.os key).1.1 ∧ r.os = (cutV n.cs n.os key).1.2 ∧ MO w' w.heap.size r ∧ MoRm w gm v0 v1 x w' :=
  (shcut_any n key W (hm.below K.be) l2).mono fun e w' ⟨r, h1, h2, h3, h4, h5⟩ => ⟨r, h1, h2, h3, h4.mono K.be.size, K.below h5⟩
theorem mo_give (K : MoRm w gm v0 v1 x W) (i o : Int) (hm : MS w n) (l2 : n.os.length ≤ 9223372036854775807) :
    Calls Tryz.prog 36 #[.agg #[.slice n.A n.cs.length n.ca, .slice n.O n.os.length n.co], .int .i64 i, .int .i64 o] W fun e w' => ∃ r : Mp, e = .returned (.tuple #[.agg #[.slice r.A r.cs.length r.ca, .slice r.O r.os.length r.co], .int .i64 (giveV n.cs n.os i o).2]) ∧
      r.cs = (giveV n.cs n.os i o).1.1 ∧ r.os = (giveV n.cs n.os i o).1.2 ∧ MO w' w.heap.size r ∧ MoRm w gm v0 v1 x w' :=
  (shgive_any n i o W (hm.below K.be) l2).mono fun e w' ⟨r, h1, h2, h3, h4, h5⟩ => ⟨r, h1, h2, h3, h4.mono K.be.size, K.below h5⟩
theorem mo_mark (w : World) : Calls Tryz.prog 33 #[] w fun e w' => e = .returned (.agg #[.string ⟨#[109, 97, 114, 107]⟩, .int .i64 (-7)]) ∧ Below w.heap.size w w' := by
  have hb := (Below.refl w.heap.size w).alloc (Nat.le_refl _) (.cells #[.string ⟨#[109, 97, 114, 107]⟩, .int .i64 (-7)] 65)
  have q0 := (Box.new w 65 #[.string ⟨#[109, 97, 114, 107]⟩, .int .i64 (-7)]).cell 0 rfl
  have q1 := (Box.new w 65 #[.string ⟨#[109, 97, 114, 107]⟩, .int .i64 (-7)]).cell 1 rfl
  go_enter Tryz.func33, Tryz.ntmps33
  go_wp2_with fail
  exact bodyPost_ret (v := .agg #[.string ⟨#[109, 97, 114, 107]⟩, .int .i64 (-7)]) (by simp [results, Tryz.results33, go_sem, q0, q1]) rfl ⟨rfl, hb⟩

set_option maxHeartbeats 4000000 in
set_option maxRecDepth 100000 in
theorem mo_new (m : Mp) (A : Option Addr) (c : Nat) (l : List Pr) (w : World) (hm : MS w m) (hA : PS w w.heap.size A l) (l2 : m.os.length ≤ 9223372036854775807) (l3 : l.length < 4611686018427387904) :
    Calls Tryz.prog 39 #[.agg #[.slice m.A m.cs.length m.ca, .slice m.O m.os.length m.co], .slice A l.length c] w fun e w' => ∃ vp, e = .returned (.tuple #[vp, .int .i64 (errV m.cs m.os l)]) ∧
      (errV m.cs m.os l = 0 → ∃ (g : Nat) (A : Option Addr) (ca : Nat) (O : Option Addr) (co : Nat) (q : Dv), vp = .pointer (some ⟨g, 0, none⟩) ∧ PB w' w.heap.size g ⟨A, ca, m.cs, O, co, m.os⟩ l q) ∧ Below w.heap.size w w' := by
  by_cases he : errV m.cs m.os l = 0
  · have hck : chkM m.cs m.os = 0 := by
      unfold errV at he
      by_cases e : chkM m.cs m.os = 0
      · exact e
      · rw [if_pos e] at he; exact he
    have hcl : chk ByteArray.empty l = 0 := by
      unfold errV at he
      rw [if_neg (by simp [hck])] at he; exact he
    refine (new_ok m A c l w hm hA (chkM_ok.1 hck) (chk_ok.1 hcl)).mono ?_
    rintro e w' ⟨g, A', ca, O, co, q, rfl, hp, hb⟩
    exact ⟨_, by rw [he], fun _ => ⟨g, A', ca, O, co, q, rfl, hp⟩, hb⟩
  · refine (new_bad m A c l w hm hA l2 l3 he).mono ?_
    rintro e w' ⟨rfl, hb⟩
    exact ⟨_, rfl, fun h => absurd h he, hb⟩
end
theorem mpA_size (cs : List ByteArray) (os : List Int) : (mpA cs os).size < 4294967281 := by
  unfold mpA
  split
  · next h =>
    have := body_len (x := ⟨true, [], cs, os⟩) h
    simp only [bodyT, if_true, List.length_append] at this
    rw [bs_size]; omega
  · decide
/-- blocks change that lie below it -/
theorem PB.lo_fr {F : Nat → Prop} {w w' : World} {B g : Nat} {m : Mp} {l : List Pr} {q : Dv} (h : PB w B g m l q) (hf : Fr F w w') (hF : ∀ k, F k → k < B) : PB w' B g m l q := by
  have lo : ∀ {t : TypeId} {s : Nat} {v : Value} {n : Nat} {xs : List Value}, w.ownsRow B t s v n xs → w'.ownsRow B t s v n xs := fun ho => hf.own ho fun k hk e => by have := hF _ e; have := (World.ownsRow.lt ho k hk).1; omega
  exact ⟨hf.box h.box fun e => by have := hF _ e; have := h.low; omega, ⟨lo h.mo.cuts, lo h.mo.own⟩, fun j hj => lo (h.own j hj), h.okm, h.ok, h.low⟩
/-- Parts, if they were made -/
def MoP (B : Nat) (m : Mp) (l : List Pr) (vp : Value) (W : World) : Prop := errV m.cs m.os l = 0 → ∃ (g : Nat) (A : Option Addr) (ca : Nat) (O : Option Addr) (co : Nat) (q : Dv), vp = .pointer (some ⟨g, 0, none⟩) ∧ PB W B g ⟨A, ca, m.cs, O, co, m.os⟩ l q
theorem MoP.below {B : Nat} {m : Mp} {l : List Pr} {vp : Value} {W W' : World} (h : MoP B m l vp W) (hb : Below W.heap.size W W') : MoP B m l vp W' := fun e => by
  obtain ⟨g, A, ca, O, co, q, h1, h2⟩ := h e
  exact ⟨g, A, ca, O, co, q, h1, h2.below hb⟩
theorem MoP.lo_fr {F : Nat → Prop} {B : Nat} {m : Mp} {l : List Pr} {vp : Value} {W W' : World} (h : MoP B m l vp W) (hf : Fr F W W') (hF : ∀ k, F k → k < B) : MoP B m l vp W' := fun e => by
  obtain ⟨g, A, ca, O, co, q, h1, h2⟩ := h e
  exact ⟨g, A, ca, O, co, q, h1, h2.lo_fr hf hF⟩
end Go.Proofs.YtmepmiokpcddbabGreatDoor

set_option linter.unusedVariables false
set_option linter.unusedSimpArgs false
namespace Go.Proofs.YtmepmiokpcddbabGreatDoor
open Go.RowKit

def mpCells : List Mp → List Value
  | [] => []
  | x :: r => .slice x.A x.cs.length x.ca :: .slice x.O x.os.length x.co :: mpCells r
theorem mpCells_length (l : List Mp) : (mpCells l).length = l.length * 2 := by
  induction l with
  | nil => rfl
  | cons p r ih => simp [mpCells, ih]; omega
theorem mpCells_append (l m : List Mp) : mpCells (l ++ m) = mpCells l ++ mpCells m := by
  induction l with
  | nil => rfl
  | cons p r ih => simp [mpCells, ih]
theorem mpCells_get (l : List Mp) (i : Nat) (x : Mp) (h : l[i]? = some x) : (mpCells l)[i * 2]? = some (.slice x.A x.cs.length x.ca) ∧ (mpCells l)[i * 2 + 1]? = some (.slice x.O x.os.length x.co) := by
  induction l generalizing i with
  | nil => simp at h
  | cons q r ih =>
    cases i with
    | zero => simp at h; subst h; simp [mpCells]
    | succ i => simp at h; have := ih i h; rw [show (i + 1) * 2 = i * 2 + 1 + 1 by omega]; simpa [mpCells] using this
theorem mpInfo : (Tryz.prog.info? 28).map (fun i => (i.zero, i.size, i.bytes)) = some (some (.agg #[.slice none 0 0, .slice none 0 0]), 2, 48) := by kernel_rfl
def MpRow (w : World) (B : Nat) (A : Option Addr) (c : Nat) (l : List Mp) : Prop := w.ownsRow B 28 2 (.slice A l.length c) l.length (mpCells l)
theorem MpRow.nil (w : World) (B : Nat) : MpRow w B none 0 [] := World.ownsRow_nil w _ _ _
theorem MpRow.below {w w' : World} {B : Nat} {A : Option Addr} {c : Nat} {l : List Mp} (h : MpRow w B A c l) (hb : Below w.heap.size w w') : MpRow w' B A c l := own_below h hb
theorem MpRow.at_ {w : World} {B : Nat} {A : Option Addr} {c : Nat} {l : List Mp} (h : MpRow w B A c l) (i : Nat) (x : Mp) (hp : l[i]? = some x) :
    ∃ b, A = some ⟨b, 0, none⟩ ∧ w.cell? ⟨b, 0 + i * 2, none⟩ = some (.slice x.A x.cs.length x.ca) ∧ w.cell? ⟨b, 0 + i * 2 + 1, none⟩ = some (.slice x.O x.os.length x.co) := by
  have h0 : 0 < l.length := by have := (List.getElem?_eq_some_iff.1 hp).1; omega
  obtain ⟨g, cap, hv, _, hlt⟩ := World.ownsRow.form h h0
  injection hv with a b e
  subst a; subst e
  have hc := World.ownsRow.cells h (g := g) rfl
  obtain ⟨g1, g2⟩ := mpCells_get l i x hp
  have h1 := hc _ _ g1
  have h2 := hc _ _ g2
  rw [Addr.add_lit] at h1 h2
  exact ⟨g, rfl, h1, by rw [Nat.add_assoc]; exact h2⟩
set_option maxRecDepth 100000 in
theorem app_mp (w : World) (base : Nat) (ty : TypeId) (A : Option Addr) (c : Nat) (l : List Mp) (hown : MpRow w base A c l) (x : Mp) (hl : l.length ≤ 1000000) (hbase : base ≤ w.heap.size) :
    ∃ A' c' w', (Builtin.append_ #[80, 80] ty #[.slice A l.length c, .slice (some ⟨w.heap.size, 0, none⟩) 1 1]).run Tryz.prog (w.alloc (.cells #[.slice x.A x.cs.length x.ca, .slice x.O x.os.length x.co] 28)) = .ok (.slice A' (l ++ [x]).length c') w' ∧ MpRow w' base A' c' (l ++ [x]) ∧
      (w.alloc (.cells #[.slice x.A x.cs.length x.ca, .slice x.O x.os.length x.co] 28)).grownBy w' (blk A) ∧ (∀ B a, B ≤ base → Below B a w → Below B a w') := by
  obtain ⟨i0, hi, hz0, hz1, hz2⟩ := info_parts mpInfo
  have e1 : (#[.slice x.A x.cs.length x.ca, .slice x.O x.os.length x.co] : Array Value) = (mpCells [x]).toArray := rfl
  rw [e1]
  have hc : ∀ j u, (mpCells [x])[j]? = some u → (w.alloc (.cells (mpCells [x]).toArray 28)).cell? ((⟨w.heap.size, 0, none⟩ : Addr).add j) = some u := by
    intro j u hu
    rw [Addr.add_lit]
    simp only [World.cell?]
    rw [heap_alloc_new]
    simp [hu]
  have hown' : (w.alloc (.cells (mpCells [x]).toArray 28)).ownsRow base 28 2 (.slice A l.length c) l.length (mpCells l) := World.ownsRow.alloc hown _
  obtain ⟨v', w', hrun, h2, h3, _, h5⟩ := run_append_own_at (P := Tryz.prog) (w.alloc (.cells (mpCells [x]).toArray 28)) base 80 ty 28 i0 _ 2 48 Tryz.underlying80 hi hz0 hz1 hz2 rfl (by decide) _ l.length (mpCells l) hown' ⟨w.heap.size, 0, none⟩ 1 1 (mpCells [x]) (by simp [mpCells]) hc
    (by intro u hu; simp [mpCells] at hu; rcases hu with rfl | rfl <;> rfl) (by unfold maxLen; omega) (by omega) (by simp; omega)
  rw [← mpCells_append, show l.length + 1 = (l ++ [x]).length by simp] at h2
  obtain ⟨A', c', rfl⟩ : ∃ A' c', v' = .slice A' (l ++ [x]).length c' := by
    rcases h2.2 with ⟨rfl, h0⟩ | ⟨g, cap, cur, rfl, _⟩
    · exact ⟨none, 0, by rw [h0]⟩
    · exact ⟨_, _, rfl⟩
  refine ⟨A', c', w', hrun, h2, by rw [ownBlock_slice] at h3; exact h3, fun B a hB hb => ?_⟩
  have hb' := hb.alloc (Nat.le_trans hB hbase) (.cells (mpCells [x]).toArray 28)
  exact hb'.grown h3 (by simp; omega) fun k hk => Nat.le_trans hB (World.ownsRow.lt hown' k hk).1
/-- copies of maps -/
structure MoWn (w wr : World) (ks : List SvSF) (is : List SvIF) (ws : List Mp) (A : Option Addr) (c : Nat) : Prop where
  row : MpRow wr w.heap.size A c ws
  mo : ∀ x ∈ ws, MO wr w.heap.size x
  eq : ∀ (j : Nat) (x : Mp) (s : SvSF) (t : SvIF), ws[j]? = some x → ks[j]? = some s → is[j]? = some t → x.cs = s.zs ∧ x.os = t.zs
section
variable {w wr w' : World} {ks : List SvSF} {is : List SvIF} {ws : List Mp} {A : Option Addr} {c : Nat}
theorem MoWn.below (h : MoWn w wr ks is ws A c) (hb : Below wr.heap.size wr w') : MoWn w w' ks is ws A c := ⟨h.row.below hb, fun x hx => (h.mo x hx).below hb, h.eq⟩
theorem MoWn.lo_fr {F : Nat → Prop} (h : MoWn w wr ks is ws A c) (hf : Fr F wr w') (hF : ∀ k, F k → k < w.heap.size) : MoWn w w' ks is ws A c := by
  have lo : ∀ {t : TypeId} {s : Nat} {v : Value} {n : Nat} {xs : List Value}, wr.ownsRow w.heap.size t s v n xs → w'.ownsRow w.heap.size t s v n xs := fun ho => hf.own ho fun k hk e => by have := hF _ e; have := (World.ownsRow.lt ho k hk).1; omega
  exact ⟨lo h.row, fun x hx => ⟨lo (h.mo x hx).cuts, lo (h.mo x hx).own⟩, h.eq⟩
theorem MoWn.add (h : MoWn w wr ks is ws A c) (x : Mp) (hx : MO wr w.heap.size x) (hl : ws.length ≤ 1000000) (hB : w.heap.size ≤ wr.heap.size) {q : Nat} (hq : ws.length = q) (he : ∀ (s : SvSF) (t : SvIF), ks[q]? = some s → is[q]? = some t → x.cs = s.zs ∧ x.os = t.zs) :
    ∃ A' c' w', (Builtin.append_ #[80, 80] 80 #[.slice A ws.length c, .slice (some ⟨wr.heap.size, 0, none⟩) 1 1]).run Tryz.prog (wr.alloc (.cells #[.slice x.A x.cs.length x.ca, .slice x.O x.os.length x.co] 28)) = .ok (.slice A' (ws ++ [x]).length c') w' ∧ MoWn w w' ks is (ws ++ [x]) A' c' ∧ (∀ B a, B ≤ w.heap.size → Below B a wr → Below B a w') := by
  obtain ⟨A', c', w2, hrun, hrow, hg, hb⟩ := app_mp wr w.heap.size 80 A c ws h.row x hl hB
  have hal := (Below.refl wr.heap.size wr).alloc (Nat.le_refl _) (.cells #[.slice x.A x.cs.length x.ca, .slice x.O x.os.length x.co] 28)
  have hty : ∀ k, blk A = some k → Ty (wr.alloc (.cells #[.slice x.A x.cs.length x.ca, .slice x.O x.os.length x.co] 28)) k 28 := fun k hk => own_ty (h.row.below hal) (by rw [ownBlock_slice]; exact hk)
  have key : ∀ {t : TypeId} {s B : Nat} {v : Value} {n : Nat} {xs : List Value}, wr.ownsRow B t s v n xs → t ≠ 28 → w2.ownsRow B t s v n xs := fun ho hne => by
    refine World.ownsRow.kept (own_below ho hal) hg ?_
    cases hA : blk A with
    | none => cases Value.ownBlock _ <;> simp
    | some k => exact own_ne (own_below ho hal) (hty k hA) hne
  refine ⟨A', c', w2, hrun, ⟨hrow, fun y hy => ?_, fun j y s t hj hs ht => ?_⟩, hb⟩
  · rcases List.mem_append.1 hy with hy | hy
    · exact ⟨key (h.mo y hy).cuts (by decide), key (h.mo y hy).own (by decide)⟩
    · rw [List.mem_singleton.1 hy]; exact ⟨key hx.cuts (by decide), key hx.own (by decide)⟩
  · rcases Nat.lt_or_ge j ws.length with hjl | hjl
    · rw [List.getElem?_append_left hjl] at hj
      exact h.eq j y s t hj hs ht
    · rw [List.getElem?_append_right hjl] at hj
      have hjq : j = q := by
        rcases Nat.lt_or_ge (j - ws.length) 1 with h1 | h1
        · omega
        · rw [List.getElem?_eq_none (by simpa using h1)] at hj; cases hj
      subst hjq
      rw [show j - ws.length = 0 by omega] at hj
      simp at hj
      subst hj
      exact he s t hs ht
end
/-- rows of four maps, each in a block of its own -/
structure MoRs (W : World) (B Bf : Nat) (ks : List SvSF) (is : List SvIF) : Prop where
  k : ∀ s ∈ ks, s.o W B
  i : ∀ s ∈ is, s.o W B
  sk : ∀ s ∈ ks, s.zs.length ≤ 1000
  si : ∀ s ∈ is, s.zs.length ≤ 1000
  hk : ∀ s ∈ ks, ∀ k, blk s.A = some k → k < Bf
  hi : ∀ s ∈ is, ∀ k, blk s.A = some k → k < Bf
  apk : ∀ (i j : Nat) (s s' : SvSF), i ≠ j → ks[i]? = some s → ks[j]? = some s' → blk s.A = none ∨ blk s.A ≠ blk s'.A
  api : ∀ (i j : Nat) (s s' : SvIF), i ≠ j → is[i]? = some s → is[j]? = some s' → blk s.A = none ∨ blk s.A ≠ blk s'.A
section
variable {W W' : World} {B Bf : Nat} {ks : List SvSF} {is : List SvIF}
theorem MoRs.below (h : MoRs W B Bf ks is) (hb : Below W.heap.size W W') : MoRs W' B Bf ks is := ⟨fun s hs => OR.below (h.k s hs) hb, fun s hs => OR.below (h.i s hs) hb, h.sk, h.si, h.hk, h.hi, h.apk, h.api⟩
theorem MoRs.lo_fr {F : Nat → Prop} (h : MoRs W B Bf ks is) (hf : Fr F W W') (hF : ∀ k, F k → k < B) : MoRs W' B Bf ks is := by
  have lo : ∀ {t : TypeId} {s : Nat} {v : Value} {n : Nat} {xs : List Value}, W.ownsRow B t s v n xs → W'.ownsRow B t s v n xs := fun ho => hf.own ho fun k hk e => by have := hF _ e; have := (World.ownsRow.lt ho k hk).1; omega
  exact ⟨fun s hs => lo (h.k s hs), fun s hs => lo (h.i s hs), h.sk, h.si, h.hk, h.hi, h.apk, h.api⟩
theorem four_mem {α : Type} {a b c d x : α} (h : x ∈ [a, b, c, d]) : x = a ∨ x = b ∨ x = c ∨ x = d := by simpa using h
theorem four_at {α : Type} {a b c d x : α} {i : Nat} (h : [a, b, c, d][i]? = some x) : (i = 0 ∧ x = a) ∨ (i = 1 ∧ x = b) ∨ (i = 2 ∧ x = c) ∨ (i = 3 ∧ x = d) := by
  rcases i with _ | _ | _ | _ | i
  · simp at h; exact .inl ⟨rfl, h.symm⟩
  · simp at h; exact .inr (.inl ⟨rfl, h.symm⟩)
  · simp at h; exact .inr (.inr (.inl ⟨rfl, h.symm⟩))
  · simp at h; exact .inr (.inr (.inr ⟨rfl, h.symm⟩))
  · simp at h
theorem blk_apart {x y : Option Addr} (h : ∀ i j, blk x = some i → blk y = some j → i ≠ j) : blk x = none ∨ blk x ≠ blk y := by
  cases hx : blk x with
  | none => exact .inl rfl
  | some i =>
    refine .inr fun e => ?_
    exact h i i hx e.symm rfl
theorem MoRs.of {Ba Bb Bc Bd Be Bf ga gb gc gd : Nat} {na nb nc nd : Mp} (ha : MoR W Ba Bb ga na) (hb : MoR W Bb Bc gb nb) (hc : MoR W Bc Bd gc nc) (hd : MoR W Be Bf gd nd) (h1 : Ba ≤ Bb) (h2 : Bb ≤ Bc) (h3 : Bc ≤ Bd) (h4 : Bd ≤ Be) (h5 : Be ≤ Bf) :
    MoRs W Ba Bf [⟨na.A, na.ca, na.cs⟩, ⟨nb.A, nb.ca, nb.cs⟩, ⟨nc.A, nc.ca, nc.cs⟩, ⟨nd.A, nd.ca, nd.cs⟩] [⟨na.O, na.co, na.os⟩, ⟨nb.O, nb.co, nb.os⟩, ⟨nc.O, nc.co, nc.os⟩, ⟨nd.O, nd.co, nd.os⟩] := by
  have la : ∀ k, (blk na.A = some k ∨ blk na.O = some k) → Ba ≤ k ∧ k < Bb := fun k hk => ⟨by
    rcases hk with hk | hk
    · exact (World.ownsRow.lt ha.mo.cuts k (by rw [ownBlock_slice]; exact hk)).1
    · exact (World.ownsRow.lt ha.mo.own k (by rw [ownBlock_slice]; exact hk)).1, ha.hi k hk⟩
  have lb : ∀ k, (blk nb.A = some k ∨ blk nb.O = some k) → Bb ≤ k ∧ k < Bc := fun k hk => ⟨by
    rcases hk with hk | hk
    · exact (World.ownsRow.lt hb.mo.cuts k (by rw [ownBlock_slice]; exact hk)).1
    · exact (World.ownsRow.lt hb.mo.own k (by rw [ownBlock_slice]; exact hk)).1, hb.hi k hk⟩
  have lc : ∀ k, (blk nc.A = some k ∨ blk nc.O = some k) → Bc ≤ k ∧ k < Bd := fun k hk => ⟨by
    rcases hk with hk | hk
    · exact (World.ownsRow.lt hc.mo.cuts k (by rw [ownBlock_slice]; exact hk)).1
    · exact (World.ownsRow.lt hc.mo.own k (by rw [ownBlock_slice]; exact hk)).1, hc.hi k hk⟩
  have ld : ∀ k, (blk nd.A = some k ∨ blk nd.O = some k) → Be ≤ k ∧ k < Bf := fun k hk => ⟨by
    rcases hk with hk | hk
    · exact (World.ownsRow.lt hd.mo.cuts k (by rw [ownBlock_slice]; exact hk)).1
    · exact (World.ownsRow.lt hd.mo.own k (by rw [ownBlock_slice]; exact hk)).1, hd.hi k hk⟩
  refine ⟨?_, ?_, ?_, ?_, ?_, ?_, ?_, ?_⟩
  · intro s hs
    rcases four_mem hs with rfl | rfl | rfl | rfl
    · exact ha.mo.cuts
    · exact hb.mo.cuts.mono h1
    · exact hc.mo.cuts.mono (by omega)
    · exact hd.mo.cuts.mono (by omega)
  · intro s hs
    rcases four_mem hs with rfl | rfl | rfl | rfl
    · exact ha.mo.own
    · exact hb.mo.own.mono h1
    · exact hc.mo.own.mono (by omega)
    · exact hd.mo.own.mono (by omega)
  · intro s hs
    rcases four_mem hs with rfl | rfl | rfl | rfl
    · exact ha.sm.1
    · exact hb.sm.1
    · exact hc.sm.1
    · exact hd.sm.1
  · intro s hs
    rcases four_mem hs with rfl | rfl | rfl | rfl
    · exact ha.sm.2
    · exact hb.sm.2
    · exact hc.sm.2
    · exact hd.sm.2
  · intro s hs k hk
    rcases four_mem hs with rfl | rfl | rfl | rfl
    · have := la k (.inl hk); omega
    · have := lb k (.inl hk); omega
    · have := lc k (.inl hk); omega
    · have := ld k (.inl hk); omega
  · intro s hs k hk
    rcases four_mem hs with rfl | rfl | rfl | rfl
    · have := la k (.inr hk); omega
    · have := lb k (.inr hk); omega
    · have := lc k (.inr hk); omega
    · have := ld k (.inr hk); omega
  · intro i j s s' hij hi hj
    refine blk_apart fun p q hp hq => ?_
    rcases four_at hi with ⟨rfl, rfl⟩ | ⟨rfl, rfl⟩ | ⟨rfl, rfl⟩ | ⟨rfl, rfl⟩ <;> rcases four_at hj with ⟨rfl, rfl⟩ | ⟨rfl, rfl⟩ | ⟨rfl, rfl⟩ | ⟨rfl, rfl⟩ <;> first
      | exact absurd rfl hij
      | (have h6 := la; have h7 := lb; have h8 := lc; have h9 := ld
         first
         | (have u := la p (.inl hp)) | (have u := lb p (.inl hp)) | (have u := lc p (.inl hp)) | (have u := ld p (.inl hp))
         first
         | (have v := la q (.inl hq)) | (have v := lb q (.inl hq)) | (have v := lc q (.inl hq)) | (have v := ld q (.inl hq))
         omega)
  · intro i j s s' hij hi hj
    refine blk_apart fun p q hp hq => ?_
    rcases four_at hi with ⟨rfl, rfl⟩ | ⟨rfl, rfl⟩ | ⟨rfl, rfl⟩ | ⟨rfl, rfl⟩ <;> rcases four_at hj with ⟨rfl, rfl⟩ | ⟨rfl, rfl⟩ | ⟨rfl, rfl⟩ | ⟨rfl, rfl⟩ <;> first
      | exact absurd rfl hij
      | (first
         | (have u := la p (.inr hp)) | (have u := lb p (.inr hp)) | (have u := lc p (.inr hp)) | (have u := ld p (.inr hp))
         first
         | (have v := la q (.inr hq)) | (have v := lb q (.inr hq)) | (have v := lc q (.inr hq)) | (have v := ld q (.inr hq))
         omega)
end
/-- while a map is copied -/
structure MoCl (w : World) (ks : List SvSF) (is : List SvIF) (ws : List Mp) (A : Option Addr) (c : Nat) (s : SvSF) (t : SvIF) (x y : Option (Option Addr × Nat)) (W : World) : Prop where
  wn : MoWn w W ks is ws A c
  be : Below w.heap.size w W
  ox : ∀ a, x = some a → OR W w.heap.size 9 a.1 a.2 (s.zs.map Value.string)
  oy : ∀ a, y = some a → OR W w.heap.size 3 a.1 a.2 (t.zs.map (Value.int .i64))
section
variable {w W W' : World} {ks : List SvSF} {is : List SvIF} {ws : List Mp} {A : Option Addr} {c : Nat} {s : SvSF} {t : SvIF} {x y : Option (Option Addr × Nat)}
theorem MoCl.below (h : MoCl w ks is ws A c s t x y W) (hb : Below W.heap.size W W') : MoCl w ks is ws A c s t x y W' := ⟨h.wn.below hb, h.be.trans (hb.mono h.be.size), fun a e => (h.ox a e).below hb, fun a e => (h.oy a e).below hb⟩
theorem MoCl.drew (h : MoCl w ks is ws A c s t x y W) : MoCl w ks is ws A c s t x y W.drew := h.below (Below.refl _ _).drew
theorem MoCl.alloc (h : MoCl w ks is ws A c s t x y W) (o : Obj) : MoCl w ks is ws A c s t x y (W.alloc o) := h.below ((Below.refl _ _).alloc (Nat.le_refl _) o)
end
def MoL1 (wl : World) (ks : List SvSF) (is : List SvIF) (v i : Value) (wr : World) : Prop := ∃ (q : Nat) (ws : List Mp) (A : Option Addr) (c : Nat), q ≤ 4 ∧ i = .int .i64 q ∧ v = .slice A ws.length c ∧ ws.length = q ∧ MoWn wl wr ks is ws A c ∧ Below wl.heap.size wl wr
/-- lists of rows, four -/
def MoLs (w : World) (ks : List SvSF) (is : List SvIF) (v1 v2 : Value) (wc : World) : Prop := ∃ gx gy, v1 = .slice (some ⟨gx, 0, none⟩) 4 4 ∧ v2 = .slice (some ⟨gy, 0, none⟩) 4 4 ∧ Box wc gx 25 (ks.map SvSF.v).toArray ∧ Box wc gy 26 (is.map SvIF.v).toArray ∧ Below w.heap.size w wc ∧ w.heap.size ≤ gx ∧ w.heap.size ≤ gy
theorem MoLs.one (w : World) (ks : List SvSF) (is : List SvIF) : MoLs w ks is (.slice (some ⟨w.heap.size, 0, none⟩) 4 4) (.slice (some ⟨w.heap.size + 1, 0, none⟩) 4 4) (((w.alloc (.cells (ks.map SvSF.v).toArray 25)).alloc (.cells (is.map SvIF.v).toArray 26)).drew) := by
  have x2 := Box.new (w.alloc (.cells (ks.map SvSF.v).toArray 25)) 26 (is.map SvIF.v).toArray
  rw [World.size_alloc] at x2
  exact ⟨_, _, rfl, rfl, ((Box.new w _ _).alloc _).drew, x2.drew, (((Below.refl _ _).alloc (Nat.le_refl _) _).alloc (by simp) _).drew, by omega, by omega⟩
theorem MoLs.two (w : World) (ks : List SvSF) (is : List SvIF) : MoLs w ks is (.slice (some ⟨w.heap.size + 1, 0, none⟩) 4 4) (.slice (some ⟨w.heap.size, 0, none⟩) 4 4) (((w.alloc (.cells (is.map SvIF.v).toArray 26)).alloc (.cells (ks.map SvSF.v).toArray 25)).drew) := by
  have x2 := Box.new (w.alloc (.cells (is.map SvIF.v).toArray 26)) 25 (ks.map SvSF.v).toArray
  rw [World.size_alloc] at x2
  exact ⟨_, _, rfl, rfl, x2.drew, ((Box.new w _ _).alloc _).drew, (((Below.refl _ _).alloc (Nat.le_refl _) _).alloc (by simp) _).drew, by omega, by omega⟩
end Go.Proofs.YtmepmiokpcddbabGreatDoor
