/-
  rokeep.DeedWrites: the law answers true.
-/
import Derived.Test.YtkikhananegclaaDBegun
import Derived.Test.YtkikhananegclaaDKeys
import Derived.Test.YtkikhananegclaaSIndex
set_option linter.unusedVariables false
set_option linter.unusedSimpArgs false
namespace Go.Proofs.Ytkikhananegclaa
open Go.RowKit

theorem Dds.ds {w : World} {B : Nat} {A : Option Addr} {c : Nat} {ds : List Dl} (h : Dds w B A c ds) : DS w A ds := ⟨h.or.vs, fun x hx => (h.oo x hx).os⟩
theorem Dds.chk {w : World} {B : Nat} {A : Option Addr} {c : Nat} {ds : List Dl} (h : Dds w B A c ds) : ∀ x ∈ ds, chkD x.d = 0 := fun x hx =>
  chkD_zero.2 ⟨(h.good x hx).2.1, by have := (h.good x hx).2.2; omega, fun o ho => ((h.good x hx).1 o ho).chk⟩
/-- while the transactions are executed -/
def StInv (w2 : World) (m : Nat) (s i : Value) (wr : World) : Prop :=
  ∃ (k : Nat) (A : Option Addr) (c : Nat) (l : List Pr), k ≤ m ∧ i = .int .i64 k ∧ s = .slice A l.length c ∧ SV wr A c l ∧ Ok l ∧ Below w2.heap.size w2 wr

set_option maxHeartbeats 2000000 in
set_option maxRecDepth 100000 in
theorem writes_any (A A2 : Option Addr) (c c2 : Nat) (zs : List Int) (cs : List Cl) (w : World) (hA : IS w A zs) (hl : zs.length ≤ c) (hc : c ≤ 9223372036854775807) (hn : A = none → c = 0)
    (hL : LS w A2 cs) (hl2 : cs.length ≤ c2) (hc2 : c2 ≤ 9223372036854775807) (hn2 : A2 = none → c2 = 0) :
    Calls Try.prog 3 #[.slice A zs.length c, .slice A2 cs.length c2] w fun e w' => e = .returned (.bool true) ∧ Below w.heap.size w w' := by
  go_enter Try.func3, Try.ntmps3
  go_wp2_with fail
  refine (dbegun_any _).mono ?_
  rintro e w1 ⟨rfl, hb1⟩
  have hA1 := hA.below hb1
  have hL1 := hL.below hb1
  clear hA hL
  go_wp2_with fail
  refine (pairs_any A c zs _ hA1 hl hc hn).mono ?_
  rintro e w2 ⟨As, cs', s, rfl, hs, hsm, hb2⟩
  have hb3 := hb1.trans (hb2.mono hb1.size)
  have hL2 := hL1.below hb2
  clear hb1 hb2 hA1 hL1 hn
  go_wp2_with fail
  refine (deeds_any A2 c2 10 cs _ hL2 hl2 hc2 hn2 (by omega)).mono ?_
  rintro e w3 ⟨Ad, cd, ds, rfl, hD, hdl, hb4⟩
  have hb5 := hb3.trans (hb4.mono hb3.size)
  have hs3 := hs.below hb4
  have hDS := hD.ds
  have hchk := hD.chk
  have hok := hsm.ok
  clear hD hb3 hb4 hs hL2 hn2 hsm
  go_wp2_with fail
  go_loopw [5, 27] (StInv w3 ds.length) (fun _ i _ => ds.length - (intOf i).toNat)
  case atStart => exact ⟨0, As, cs', s, Nat.zero_le _, rfl, rfl, hs3, hok, Below.refl _ _⟩
  case round =>
    obtain ⟨k, Ak, ck, lk, hk, rfl, rfl, hSV, hokk, hb⟩ := hrel
    clear hs3 hok
    have hlk := hokk.small
    by_cases hlt : k < ds.length
    · obtain ⟨⟨b, o, rfl, hbl, q1⟩, hos⟩ := (hDS.below hb).at_ hlt
      have hcd := hchk _ (List.getElem_mem hlt)
      generalize ds[k] = x at q1 hos hcd
      obtain ⟨Dx, cx, dx⟩ := x
      simp only [dlV] at q1
      simp only at hos hcd
      have hab := (Below.refl wr.heap.size wr).alloc (Nat.le_refl _) (.cells #[.slice Dx dx.length cx] 31)
      have hb9 := hb.alloc hb.size (.cells #[.slice Dx dx.length cx] 31)
      have hS9 := hSV.below hab
      have hos9 := hos.go hab
      have hat : (wr.alloc (.cells #[.slice Dx dx.length cx] 31)).cell? ⟨wr.heap.size, 0, none⟩ = some (.slice Dx dx.length cx) := by simp
      have hatl : wr.heap.size < (wr.alloc (.cells #[.slice Dx dx.length cx] 31)).heap.size := by simp
      go_wp2_with fail
      generalize wr.alloc (.cells #[.slice Dx dx.length cx] 31) = w5 at hb9 hS9 hos9 hat hatl ⊢
      clear hab hSV hos hb
      have hoc := (chkD_zero.1 hcd).2.2
      have hsame := hideP (fun k (hk : k ∉ wrL dx) => doneV_other hoc (valOf lk) hk)
      have hab2 : (doneV (valOf lk) dx).2 = false → (doneV (valOf lk) dx).1 = valOf lk := by
        cases hr : runV (valOf lk) dx with
        | none => rw [doneV_none hr]; intro _; rfl
        | some u => rw [doneV_some hr]; intro h; cases h
      have Hab := hideP hab2
      clear hab2
      refine (rrun_ok Ak Dx ck cx lk dx _ hS9 hokk hos9 hcd).mono ?_
      rintro e w6 ⟨A6, c6, l6, rfl, hO6, hok6, hv6, hb10⟩
      have hb11 := hb9.trans (hb10.mono hb9.size)
      have hS6 := hS9.below hb10
      have hos6 := hos9.go hb10
      have hx6 := hO6.sv
      have hat6 := (hb10.cell (p := ⟨wr.heap.size, 0, none⟩) hatl).trans hat
      have HV6 := hideP hv6
      generalize (doneV (valOf lk) dx).2 = ok at Hab ⊢
      clear hv6 hb9 hb10 hS9 hos9 hO6 hat hatl hoc
      go_wp2_with fail
      refine (keys_ok Dx cx dx _ hos6 hcd).mono ?_
      rintro e w7 ⟨B1, e1, B2, e2, rfl, hT, hb12⟩
      have hb13 := hb11.trans (hb12.mono hb11.size)
      have hS7 := hS6.below hb12
      have hx7 := hx6.below hb12
      have hw7 := hT.o2.vs
      have hwm := hideP (fun k => keysOf_mem (wrL dx) k)
      have hwl : (keysOf (wrL dx)).length ≤ 16 := by have := keysOf_len (wrL dx); have := wrL_len dx; have := (chkD_zero.1 hcd).2.1; omega
      generalize keysOf (wrL dx) = ws at hw7 hwm hwl ⊢
      generalize keysOf (rdL dx) = rs
      clear hb11 hb12 hS6 hx6 hT hos6 hat6 hcd
      have hl6 := hok6.small
      have hgo : ∀ w8 : World, SV w8 Ak ck lk → SV w8 A6 c6 l6 → VS w8 B2 (ws.map Value.string) → Below w3.heap.size w3 w8 → True := fun _ _ _ _ _ => trivial
      clear hgo
      cases ok with
      | false =>
        obtain rfl : l6 = lk := hok6.ext hokk (fun k => by rw [HV6.out, Hab.out rfl])
        go_wp2_with fail
        refine (equal_same _ _ _ _ l6 _ hx7.ps hS7.ps (by omega)).mono ?_
        rintro e w8 ⟨rfl, hb14⟩
        have hb15 := hb13.trans (hb14.mono hb13.size)
        have hS8 := hS7.below hb14
        have hx8 := hx7.below hb14
        have hw8 := hw7.below hb14
        clear hb13 hb14 hS7 hx7 hw7
        go_wp2_with fail
        refine (keys_any _).mono ?_
        rintro e w' ⟨rfl, rfl⟩
        have hab := (Below.refl w8.heap.size w8).alloc (Nat.le_refl _) keysO
        have hS9 := hS8.below hab
        have hx9 := hx8.below hab
        have hw9 := hw8.below hab
        have hkc := keysO_cell w8
        have hb16 := hb15.alloc hb15.size keysO
        clear hab
        obtain ⟨g, hg⟩ : ∃ g, g = w8.heap.size := ⟨_, rfl⟩
        have hglt : g < (w8.alloc keysO).heap.size := by rw [hg]; simp
        rw [← hg] at hkc ⊢
        generalize w8.alloc keysO = w9 at hS9 hx9 hw9 hkc hb16 hglt ⊢
        clear hg
        go_wp2_with fail
        go_loopw [62] (fun i wr => ∃ j : Nat, j ≤ 8 ∧ i = .int .i64 j ∧ Below w9.heap.size w9 wr) (fun i _ => 8 - (intOf i).toNat)
        case atStart => exact ⟨0, Nat.zero_le _, rfl, Below.refl _ _⟩
        case round =>
          obtain ⟨j, hj, rfl, hbj⟩ := hrel
          have hSj := hS9.below hbj
          have hxj := hx9.below hbj
          have hwj := hw9.below hbj
          by_cases hj8 : j < 8
          · have hcj := (hbj.cell (p := ⟨g, j, none⟩) hglt).trans (hkc j hj8)
            have hkok := keyN_ok hj8
            generalize keyN j = key at hcj hkok
            go_wp2_with fail
            refine (get_ok Ak ck l6 key _ hSj (by omega) hokk hkok).mono ?_
            rintro e wa ⟨rfl, hba⟩
            have hxa := hxj.below hba
            have hwa := hwj.below hba
            have hbja := hbj.trans (hba.mono hbj.size)
            go_wp2_with fail
            refine (get_ok A6 c6 l6 key _ hxa (by omega) hok6 hkok).mono ?_
            rintro e wb ⟨rfl, hbb⟩
            have hwb := hwa.below hbb
            have hbjb := hbja.trans (hbb.mono hbja.size)
            clear hSj hxj hwj hxa hwa hba hbb hbj hbja hS9 hx9 hw9 hkc
            have dab : (valOf l6 key != valOf l6 key) = false := by simp
            go_wp2_with fail
            go_roundw
            case rel => exact ⟨j + 1, by omega, by go_num, hbjb⟩
            case measure => simp [intOf]; omega
          · have hb17 := hb16.trans (hbj.mono hb16.size)
            go_wp2_with fail
            go_roundw
            case rel => exact ⟨k + 1, A6, c6, l6, by omega, by go_num, rfl, hxj, hok6, hb17⟩
            case measure => simp [intOf]; omega
      | true =>
        go_wp2_with fail
        refine (keys_any _).mono ?_
        rintro e w' ⟨rfl, rfl⟩
        have hab := (Below.refl w7.heap.size w7).alloc (Nat.le_refl _) keysO
        have hS9 := hS7.below hab
        have hx9 := hx7.below hab
        have hw9 := hw7.below hab
        have hkc := keysO_cell w7
        have hb16 := hb13.alloc hb13.size keysO
        clear hab
        obtain ⟨g, hg⟩ : ∃ g, g = w7.heap.size := ⟨_, rfl⟩
        have hglt : g < (w7.alloc keysO).heap.size := by rw [hg]; simp
        rw [← hg] at hkc ⊢
        generalize w7.alloc keysO = w9 at hS9 hx9 hw9 hkc hb16 hglt ⊢
        clear hg
        go_wp2_with fail
        go_loopw [62] (fun i wr => ∃ j : Nat, j ≤ 8 ∧ i = .int .i64 j ∧ Below w9.heap.size w9 wr) (fun i _ => 8 - (intOf i).toNat)
        case atStart => exact ⟨0, Nat.zero_le _, rfl, Below.refl _ _⟩
        case round =>
          obtain ⟨j, hj, rfl, hbj⟩ := hrel
          have hSj := hS9.below hbj
          have hxj := hx9.below hbj
          have hwj := hw9.below hbj
          by_cases hj8 : j < 8
          · have hcj := (hbj.cell (p := ⟨g, j, none⟩) hglt).trans (hkc j hj8)
            have hkok := keyN_ok hj8
            generalize keyN j = key at hcj hkok
            go_wp2_with fail
            refine (get_ok Ak ck lk key _ hSj (by omega) hokk hkok).mono ?_
            rintro e wa ⟨rfl, hba⟩
            have hxa := hxj.below hba
            have hwa := hwj.below hba
            have hbja := hbj.trans (hba.mono hbj.size)
            go_wp2_with fail
            refine (get_ok A6 c6 l6 key _ hxa (by omega) hok6 hkok).mono ?_
            rintro e wb ⟨rfl, hbb⟩
            have hwb := hwa.below hbb
            have hbjb := hbja.trans (hbb.mono hbja.size)
            clear hSj hxj hwj hxa hwa hba hbb hbj hbja hS9 hx9 hw9 hkc
            by_cases hin : key ∈ ws
            · have hin' := inB_iff.2 hin
              by_cases hab : valOf lk key = valOf l6 key
              · have dab : (valOf lk key != valOf l6 key) = false := by simp [hab]
                clear hab
                go_wp2_with fail
                go_roundw
                case rel => exact ⟨j + 1, by omega, by go_num, hbjb⟩
                case measure => simp [intOf]; omega
              · have dab : (valOf lk key != valOf l6 key) = true := by simp [hab]
                clear hab
                go_wp2_with fail
                refine (scontains_any B2 e2 ws key _ hwb (by omega)).mono ?_
                rintro e w' ⟨rfl, rfl⟩
                rw [hin']
                go_wp2_with fail
                go_roundw
                case rel => exact ⟨j + 1, by omega, by go_num, hbjb⟩
                case measure => simp [intOf]; omega
            · have hab : valOf lk key = valOf l6 key := by rw [HV6.out, hsame.out key (fun e => hin ((hwm.out key).2 e))]
              have dab : (valOf lk key != valOf l6 key) = false := by simp [hab]
              clear hab
              go_wp2_with fail
              go_roundw
              case rel => exact ⟨j + 1, by omega, by go_num, hbjb⟩
              case measure => simp [intOf]; omega
          · have hb17 := hb16.trans (hbj.mono hb16.size)
            go_wp2_with fail
            go_roundw
            case rel => exact ⟨k + 1, A6, c6, l6, by omega, by go_num, rfl, hxj, hok6, hb17⟩
            case measure => simp [intOf]; omega
    · have hb12 := hb5.trans (hb.mono hb5.size)
      go_wp2_with fail
      go_ret
      exact ⟨rfl, hb12⟩
end Go.Proofs.Ytkikhananegclaa
