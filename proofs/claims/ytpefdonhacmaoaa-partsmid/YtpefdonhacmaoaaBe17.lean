/-
  What rokeep.Deeds makes, as valid transactions (no body of the program in it).
  What the laws over partitioned stores have in common.
  An array's elements by number.
  store.find: what it answers.
-/
import Derived.Test.YtpefdonhacmaoaaBe15
import Derived.Test.YtpefdonhacmaoaaBe16
import Derived.Test.YtpefdonhacmaoaaBe11
import Derived.Test.YtpefdonhacmaoaaBe12
import Derived.Test.YtpefdonhacmaoaaBe7
import Derived.Test.YtpefdonhacmaoaaBe1
set_option linter.unusedVariables false
set_option linter.unusedSimpArgs false
namespace Go.Proofs.Ytpefdonhacmaoaa
open Go.RowKit

theorem Dds.ds {w : World} {B : Nat} {A : Option Addr} {c : Nat} {ds : List Dl} (h : Dds w B A c ds) : DS w A ds := ⟨h.or.vs, fun x hx => (h.oo x hx).os⟩
theorem Dds.chk {w : World} {B : Nat} {A : Option Addr} {c : Nat} {ds : List Dl} (h : Dds w B A c ds) : ∀ x ∈ ds, chkD x.d = 0 := fun x hx => by
  obtain ⟨h1, h2, h3⟩ := h.good x hx
  exact chkD_zero.2 ⟨h2, by omega, fun o ho => (h1 o ho).chk⟩
end Go.Proofs.Ytpefdonhacmaoaa

set_option linter.unusedVariables false
set_option linter.unusedSimpArgs false
namespace Go.Proofs.Ytpefdonhacmaoaa
open Go.RowKit

/-- the map that numbers make -/
def mpC (zs : List Int) : List ByteArray := (mapR zs 6).1
def mpO (zs : List Int) : List Int := (mapR zs 6).2.map fun (k : Nat) => (k : Int)
theorem mp_ok (zs : List Int) : OkM (mpC zs) (mpO zs) := mapR_ok zs
def RetMi (w : World) (zs : List Int) (e : Ending) (w' : World) : Prop :=
  ∃ A ca O co, e = .returned (.agg #[.slice A (mpC zs).length ca, .slice O (mpO zs).length co]) ∧ MO w' w.heap.size ⟨A, ca, mpC zs, O, co, mpO zs⟩ ∧ Below w.heap.size w w'
theorem kmap_is (P : Option Addr) (cp : Nat) (zs : List Int) (w : World) (hP : IS w P zs) (hl : zs.length ≤ 9223372036854775807) :
    Calls Try.prog 7 #[.slice P zs.length cp] w (RetMi w zs) := by
  refine (kmap_any P cp zs w hP hl).mono ?_
  rintro e w' ⟨A, ca, O, co, rfl, h1, h2, hb⟩
  refine ⟨A, ca, O, co, by simp only [mpC, mpO, List.length_map], ⟨h1, ?_⟩, hb⟩
  have e : ((mapR zs 6).2.map fun (k : Nat) => (k : Int)).map (Value.int .i64) = nV (mapR zs 6).2 := by simp [nV]
  show OR w' w.heap.size 3 O co ((mpO zs).map (Value.int .i64))
  unfold mpO
  rw [e]; exact h2
theorem Dds.kept {w w' : World} {B : Nat} {A : Option Addr} {c g : Nat} {ds : List Dl} {t : TypeId} (h : Dds w B A c ds) (ht : Ty w g t) (h1 : 39 ≠ t) (h2 : 69 ≠ t) (hg : w.grownBy w' (some g)) : Dds w' B A c ds :=
  ⟨World.ownsRow.kept h.or hg (own_ne h.or ht h1), fun x hx => World.ownsRow.kept (h.oo x hx) hg (own_ne (h.oo x hx) ht h2), h.ap, h.pw, h.good⟩
theorem Dds.below_ {w w' : World} {B : Nat} {A : Option Addr} {c : Nat} {ds : List Dl} (h : Dds w B A c ds) (hb : Below w.heap.size w w') : Dds w' B A c ds :=
  ⟨h.or.below hb, fun x hx => own_below (h.oo x hx) hb, h.ap, h.pw, h.good⟩
theorem MX.kept {w wr w' : World} {gm g : Nat} {m : Mp} (h : MX w gm m wr) (ht : Ty wr g 67) (hl : w.heap.size ≤ g) (hg : wr.grownBy w' (some g)) : MX w gm m w' :=
  ⟨h.x0.kept (ty_ne h.x0.ty ht (by decide)) hg, h.mo.kept ht (by decide) (by decide) hg, Below.kept h.be hl hg⟩
/-- a slice of pairs that lies in no block of a partitioned store -/
structure SN (w : World) (g : Nat) (A : Option Addr) (c : Nat) (l : List Pr) : Prop where
  sv : SV w A c l
  ne : ∀ (i : Nat) (p : Pr), l[i]? = some p → ∀ a, A = some a → a.block ≠ g
theorem SN.of_ov {w : World} {B g : Nat} {A : Option Addr} {c : Nat} {l : List Pr} (h : OV w B A c l) (ht : Ty w g 67) : SN w g A c l := ⟨h.sv, fun i p _ a e1 e2 => by
  subst e1; subst e2
  exact absurd ((own_ty h rfl).inj ht) (by decide)⟩
theorem SN.of_sv {ws w : World} {g : Nat} {A : Option Addr} {c : Nat} {l : List Pr} (h : SV ws A c l) (hb : Below ws.heap.size ws w) (hg : ws.heap.size ≤ g) : SN w g A c l := ⟨h.below hb, fun i p hp a e1 e2 => by
  obtain ⟨b, o, e, hlt, _⟩ := h.ps i p hp
  rw [e1] at e
  injection e with e
  subst e
  simp at e2
  omega⟩
theorem SN.below {w w' : World} {g : Nat} {A : Option Addr} {c : Nat} {l : List Pr} (h : SN w g A c l) (hb : Below w.heap.size w w') : SN w' g A c l := ⟨h.sv.below hb, h.ne⟩
theorem begun_ok : OkM [⟨#[109]⟩] [0, 1] := chkM_ok.1 (by decide +kernel)
theorem begun_st : Ok [((⟨#[97]⟩ : ByteArray), (1 : Int)), (⟨#[122]⟩, 2)] := chk_ok.1 (by decide +kernel)
theorem begun_pt : (ptL [⟨#[109]⟩] [0, 1] ((1 : Nat) : Int) [((⟨#[97]⟩ : ByteArray), (1 : Int)), (⟨#[122]⟩, 2)]).length = 1 := by decide +kernel

set_option maxHeartbeats 1000000 in
set_option maxRecDepth 100000 in
theorem ptbegun_any (w : World) : Calls Try.prog 6 #[] w fun e w' => e = .returned (.bool true) ∧ Below w.heap.size w w' := by
  have b0 := (((Below.refl w.heap.size w).alloc (Nat.le_refl _) (.cells #[.string ⟨#[109]⟩] 9)).alloc (by simp) (.cells #[.int .i64 0, .int .i64 1] 3)).alloc (by simp; omega) (.cells #[.string ⟨#[97]⟩, .int .i64 1, .string ⟨#[122]⟩, .int .i64 2] 46)
  have x0 := ((Box.new w 9 #[.string ⟨#[109]⟩]).alloc (.cells #[.int .i64 0, .int .i64 1] 3)).alloc (.cells #[.string ⟨#[97]⟩, .int .i64 1, .string ⟨#[122]⟩, .int .i64 2] 46)
  have x1 := (Box.new (w.alloc (.cells #[.string ⟨#[109]⟩] 9)) 3 #[.int .i64 0, .int .i64 1]).alloc (.cells #[.string ⟨#[97]⟩, .int .i64 1, .string ⟨#[122]⟩, .int .i64 2] 46)
  have x2 := Box.new ((w.alloc (.cells #[.string ⟨#[109]⟩] 9)).alloc (.cells #[.int .i64 0, .int .i64 1] 3)) 46 #[.string ⟨#[97]⟩, .int .i64 1, .string ⟨#[122]⟩, .int .i64 2]
  simp only [World.size_alloc] at x1 x2
  generalize hW : ((w.alloc (.cells #[.string ⟨#[109]⟩] 9)).alloc (.cells #[.int .i64 0, .int .i64 1] 3)).alloc (.cells #[.string ⟨#[97]⟩, .int .i64 1, .string ⟨#[122]⟩, .int .i64 2] 46) = w3 at b0 x0 x1 x2
  have hm : MS w3 ⟨some ⟨w.heap.size, 0, none⟩, 1, [⟨#[109]⟩], some ⟨w.heap.size + 1, 0, none⟩, 2, [0, 1]⟩ :=
    ⟨VS.of_box x0, VS.is_int (l := [0, 1]) (VS.of_box x1), by simp, by simp, by simp [maxLen], by simp [maxLen], (fun e => by cases e), (fun e => by cases e)⟩
  have hps : PS w3 w3.heap.size (some ⟨w.heap.size + 1 + 1, 0, none⟩) [((⟨#[97]⟩ : ByteArray), (1 : Int)), (⟨#[122]⟩, 2)] := fun i p hp => by
    match i with
    | 0 => simp at hp; subst hp; exact ⟨_, _, rfl, x2.lt, x2.cell 0 rfl, x2.cell 1 rfl⟩
    | 1 => simp at hp; subst hp; exact ⟨_, _, rfl, x2.lt, x2.cell 2 rfl, x2.cell 3 rfl⟩
    | i + 2 => simp at hp
  have HF := hideP (new_ok _ _ 2 _ w3 hm hps begun_ok begun_st)
  clear hm hps x0 x1 x2
  go_enter Try.func6, Try.ntmps6
  go_wp2_with fail
  refine HF.out.mono ?_
  rintro e w4 ⟨g, A, ca, O, co, q, rfl, hP, hb4⟩
  have hb5 := b0.trans (hb4.mono b0.size)
  have HPT := hideP (ppart_ok _ g _ _ q 1 w4 hP (by omega))
  simp only [begun_pt] at HPT
  clear HF hP hb4 b0 hW
  go_wp2_with fail
  refine HPT.out.mono ?_
  rintro e w6 ⟨A6, c6, rfl, _, hb6⟩
  have hb7 := hb5.trans (hb6.mono hb5.size)
  clear HPT
  go_wp2_with fail
  go_ret
  exact ⟨rfl, hb7⟩
end Go.Proofs.Ytpefdonhacmaoaa

set_option linter.unusedVariables false
set_option linter.unusedSimpArgs false
namespace Go.Proofs.Ytpefdonhacmaoaa
open Go.RowKit

set_option maxRecDepth 100000 in
theorem idx4 (q : Dv) (cs : List ByteArray) (os : List Int) (l : List Pr) {k : Nat} (hk : k < 4) (w : World) :
    (Instr.index 62 (.agg #[q.s cs os l 0, q.s cs os l 1, q.s cs os l 2, q.s cs os l 3]) (.int .i64 (k : Int))).run Try.prog w = .ok (q.s cs os l k) w := by
  have hu := run_underlying (w := w) Try.underlying62
  rcases lt4 hk with rfl | rfl | rfl | rfl <;> simp [Instr.index, asIntOf, hu, part, go_sem]
end Go.Proofs.Ytpefdonhacmaoaa

set_option linter.unusedVariables false
set_option linter.unusedSimpArgs false
namespace Go.Proofs.Ytpefdonhacmaoaa
open Go.RowKit

set_option maxHeartbeats 400000 in
set_option maxRecDepth 100000 in
theorem compareString_any (a b : ByteArray) (w : World) :
    Calls Try.prog 85 #[.string a, .string b] w fun e w' => e = .returned (.int .i64 (cmpB a b)) ∧ w = w' := by
  go_enter Try.func85, Try.ntmps85
  go_wp2
  rw [run_callFunc_extern Try.func86 (by kernel_rfl) (by kernel_rfl) (by kernel_rfl) (e := Extern.BytealgCompare.compare) (by kernel_rfl), Lib.run_compareString]
  simp only [Result.andThen]
  rw [Oper.upon_value]
  go_wp2
  go_ret
  exact ⟨rfl, rfl⟩

set_option maxHeartbeats 400000 in
theorem compare_any (a b : ByteArray) (w : World) :
    Calls Try.prog 84 #[.string a, .string b] w fun e w' => e = .returned (.int .i64 (cmpB a b)) ∧ w = w' := by
  go_enter Try.func84, Try.ntmps84
  go_wp2_with fail
  refine (compareString_any _ _ _).mono ?_
  rintro e w' ⟨rfl, rfl⟩
  go_wp2_with fail
  go_ret
  exact ⟨rfl, rfl⟩

set_option maxHeartbeats 400000 in
theorem find1_any (a b : ByteArray) (n : Int) (w : World) :
    Calls Try.prog 83 #[.agg #[.string a, .int .i64 n], .string b] w fun e w' => e = .returned (.int .i64 (cmpB a b)) ∧ w.alloc (.cells #[.string a, .int .i64 n] 46) = w' := by
  go_enter Try.func83, Try.ntmps83
  go_wp2_with fail
  refine (compare_any _ _ _).mono ?_
  rintro e w' ⟨rfl, rfl⟩
  go_wp2_with fail
  go_ret
  exact ⟨rfl, rfl⟩

set_option maxHeartbeats 400000 in
set_option maxRecDepth 100000 in
theorem search_any (A : Option Addr) (c : Nat) (l : List Pr) (key : ByteArray) (q : Nat) (w : World) (hA : PS w w.heap.size A l) (hl : l.length < 4611686018427387904) (hq : At l key q) :
    Calls Try.prog 82 #[.slice A l.length c, .string key, .func (.func 83) #[] #[]] w fun e w' =>
      e = .returned (.tuple #[.int .i64 q, .bool (fnd l key q)]) ∧ Below w.heap.size w w' := by
  go_enter Try.func82, Try.ntmps82
  go_wp2
  go_loopw [9, 10] (fun i j wr => ∃ (a b : Nat), a ≤ q ∧ q ≤ b ∧ b ≤ l.length ∧ i = .int .i64 a ∧ j = .int .i64 b ∧ Below w.heap.size w wr) (fun i j _ => (intOf j - intOf i).toNat)
  case atStart => exact ⟨0, l.length, Nat.zero_le _, hq.le, Nat.le_refl _, rfl, rfl, Below.refl _ _⟩
  case round =>
    obtain ⟨a, b, h1, h2, h3, rfl, rfl, hb⟩ := hrel
    by_cases hlt : a < b
    · have hm : (a + b) / 2 < l.length := by omega
      obtain ⟨bl, o, rfl, hbl, c1, c2⟩ := hA.below hb ((a + b) / 2) _ (List.getElem?_eq_getElem hm)
      have HL := hideP (hq.lo ((a + b) / 2) hm)
      have HH := hideP (hq.hi ((a + b) / 2) hm)
      clear hA hq
      generalize l[(a + b) / 2] = p at c1 c2 HL HH
      have HB := (hb.alloc hb.size (.cells #[.string p.1, .int .i64 p.2] 46))
      have g1 : (0 : Int) ≤ ((a : Int) + (b : Int)) / 2 := by omega
      have g2 : ((a : Int) + (b : Int)) / 2 < (l.length : Int) := by omega
      cases hc : ltB p.1 key
      · have d : decide (cmpB p.1 key < 0) = false := by rw [decide_eq_false_iff_not, cmpB_neg, hc]; simp
        have hqm : q ≤ (a + b) / 2 := by
          rcases Nat.lt_or_ge ((a + b) / 2) q with h | h
          · rw [HL.out h] at hc; cases hc
          · exact h
        clear hc
        go_wp2_with fail
        refine (find1_any _ _ _ _).mono ?_
        rintro e w' ⟨rfl, rfl⟩
        go_wp2_with fail
        go_roundw
        case rel => exact ⟨a, (a + b) / 2, h1, hqm, by omega, rfl, by go_num, HB⟩
        case measure => simp [intOf]; omega
      · have d : decide (cmpB p.1 key < 0) = true := by rw [decide_eq_true_iff, cmpB_neg, hc]
        have hqm : (a + b) / 2 < q := by
          rcases Nat.lt_or_ge ((a + b) / 2) q with h | h
          · exact h
          · rw [HH.out h] at hc; cases hc
        clear hc
        go_wp2_with fail
        refine (find1_any _ _ _ _).mono ?_
        rintro e w' ⟨rfl, rfl⟩
        go_wp2_with fail
        go_roundw
        case rel => exact ⟨(a + b) / 2 + 1, b, by omega, h2, h3, by go_num, rfl, HB⟩
        case measure => simp [intOf]; omega
    · obtain rfl : a = q := by omega
      obtain rfl : a = b := by omega
      clear h1 h2 hlt
      by_cases hlt : a < l.length
      · obtain ⟨bl, o, rfl, hbl, c1, c2⟩ := hA.below hb a _ (List.getElem?_eq_getElem hlt)
        have HF := hideP (show fnd l key a = (cmpB (l[a]).1 key == 0) by simp [fnd, hlt])
        clear hA hq
        generalize l[a] = p at c1 c2 HF
        have HB := (hb.alloc hb.size (.cells #[.string p.1, .int .i64 p.2] 46))
        go_wp2_with fail
        refine (find1_any _ _ _ _).mono ?_
        rintro e w' ⟨rfl, rfl⟩
        go_wp2_with fail
        go_ret2
        exact ⟨ret_ib rfl HF.out.symm, HB⟩
      · have HF := hideP (show fnd l key a = false by simp [fnd, hlt])
        go_wp2_with fail
        go_ret2
        exact ⟨ret_ib rfl HF.out.symm, hb⟩

set_option maxHeartbeats 400000 in
theorem find_any (A : Option Addr) (c : Nat) (l : List Pr) (key : ByteArray) (q : Nat) (w : World) (hA : PS w w.heap.size A l) (hl : l.length < 4611686018427387904) (hq : At l key q) :
    Calls Try.prog 80 #[.slice A l.length c, .string key] w fun e w' => e = .returned (.tuple #[.int .i64 q, .bool (fnd l key q)]) ∧ Below w.heap.size w w' := by
  go_enter Try.func80, Try.ntmps80
  go_wp2_with fail
  refine (search_any A c l key q _ hA hl hq).mono ?_
  rintro e w' ⟨rfl, hb⟩
  go_wp2_with fail
  go_ret2
  exact ⟨rfl, hb⟩
end Go.Proofs.Ytpefdonhacmaoaa
