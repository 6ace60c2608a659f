/-
  Plain maps, plainly (no program in it).
  The contract of sort.Slice that the library holds, laid at this dump.
-/
import Derived.Test.YtmepmiokpcddbabGreatDoorCa2
import Derived.Shelf.Strings.SlTrimAscii
import Derived.Shelf.Sort.Plain
import Derived.Shelf.Slices.CompactS
import Derived.Shelf.Slices.CompactI
import Derived.Ground.Names2Prog
import Derived.Ground.NamesProg
import Derived.Test.YtmepmiokpcddbabGreatDoorProg
set_option linter.unusedVariables false
set_option linter.unusedSimpArgs false
namespace Go.Proofs.YtmepmiokpcddbabGreatDoor

/-- the plain map of the first k cuts -/
def plN (cs : List ByteArray) (os : List Int) : Nat → List ByteArray × List Int
  | 0 => ([], [os.getD 0 0])
  | k + 1 => if os.getD (k + 1) 0 = os.getD k 0 then plN cs os k else ((plN cs os k).1 ++ [cs.getD k ByteArray.empty], (plN cs os k).2 ++ [os.getD (k + 1) 0])
section
variable {cs : List ByteArray} {os : List Int}
theorem plN_len (cs : List ByteArray) (os : List Int) (k : Nat) : (plN cs os k).2.length = (plN cs os k).1.length + 1 := by
  induction k with
  | zero => rfl
  | succ k ih => simp only [plN]; split <;> simp [ih]
theorem plN_last (cs : List ByteArray) (os : List Int) (k : Nat) : (plN cs os k).2.getD (plN cs os k).1.length 0 = os.getD k 0 := by
  induction k with
  | zero => rfl
  | succ k ih =>
    simp only [plN]
    split
    · rename_i h; rw [ih, h]
    · simp only [List.length_append, List.length_singleton, List.getD_eq_getElem?_getD]
      rw [List.getElem?_append_right (by rw [plN_len]; exact Nat.le_refl _), plN_len]
      simp
theorem take_snoc_ {k : Nat} (h : k < cs.length) : cs.take (k + 1) = cs.take k ++ [cs.getD k ByteArray.empty] := by
  rw [List.take_succ_eq_append_getElem h]
  simp [List.getD_eq_getElem?_getD, h]
theorem plN_sub (os : List Int) {k : Nat} (hk : k ≤ cs.length) : (plN cs os k).1.Sublist (cs.take k) := by
  induction k with
  | zero => simp [plN]
  | succ k ih =>
    rw [take_snoc_ (by omega)]
    simp only [plN]
    split
    · exact (ih (by omega)).trans (List.sublist_append_left _ _)
    · exact (ih (by omega)).append (List.Sublist.refl _)
theorem plN_own {k : Nat} (hk : k < os.length) (h : ∀ n ∈ os, 0 ≤ n ∧ n ≤ 3) : ∀ n ∈ (plN cs os k).2, 0 ≤ n ∧ n ≤ 3 := by
  have hm : ∀ i, i < os.length → os.getD i 0 ∈ os := fun i hi => by rw [List.getD_eq_getElem?_getD, List.getElem?_eq_getElem hi]; exact List.getElem_mem hi
  induction k with
  | zero => intro n hn; simp [plN] at hn; subst hn; have := h _ (hm 0 hk); simpa [List.getD_eq_getElem?_getD] using this
  | succ k ih =>
    simp only [plN]
    split
    · exact ih (by omega)
    · intro n hn
      rcases List.mem_append.1 hn with hn | hn
      · exact ih (by omega) n hn
      · rw [List.mem_singleton.1 hn]; exact h _ (hm _ hk)
/-- no neighbours have one owner -/
theorem plN_adj (cs : List ByteArray) (os : List Int) (k : Nat) : ∀ i, i + 1 < (plN cs os k).2.length → (plN cs os k).2.getD (i + 1) 0 ≠ (plN cs os k).2.getD i 0 := by
  induction k with
  | zero => intro i hi; simp [plN] at hi
  | succ k ih =>
    simp only [plN]
    split
    · exact ih
    · rename_i h
      intro i hi
      simp only [List.length_append, List.length_singleton] at hi
      have hl := plN_len cs os k
      by_cases hlt : i + 1 < (plN cs os k).2.length
      · simp only [List.getD_eq_getElem?_getD]
        rw [List.getElem?_append_left hlt, List.getElem?_append_left (by omega)]
        have := ih i hlt
        simpa only [List.getD_eq_getElem?_getD] using this
      · have e : i + 1 = (plN cs os k).2.length := by omega
        have h1 := plN_last cs os k
        have e2 : i = (plN cs os k).1.length := by omega
        simp only [List.getD_eq_getElem?_getD] at h1 h ⊢
        rw [List.getElem?_append_right (by omega), List.getElem?_append_left (by omega), e, Nat.sub_self, e2, h1]
        simpa using h
theorem plN_valid (h : OkM cs os) : OkM (plN cs os cs.length).1 (plN cs os cs.length).2 := by
  have hs := plN_sub (cs := cs) os (Nat.le_refl _)
  rw [List.take_length] at hs
  obtain ⟨h1, h2⟩ := cutsB_iff.1 h.cuts
  exact ⟨Nat.le_trans hs.length_le h.few, plN_len _ _ _, cutsB_iff.2 ⟨fun k hk => h1 k (hs.subset hk), h2.sublist hs⟩, plN_own (by rw [h.len]; omega) h.own⟩
/-- a plain map's plain map is itself -/
theorem plN_same {k : Nat} (hk : k ≤ cs.length) (hl : os.length = cs.length + 1) (h : ∀ i, i < k → os.getD (i + 1) 0 ≠ os.getD i 0) : plN cs os k = (cs.take k, os.take (k + 1)) := by
  induction k with
  | zero =>
    have : 0 < os.length := by omega
    cases os with
    | nil => simp at this
    | cons x r => simp [plN]
  | succ k ih =>
    simp only [plN]
    rw [if_neg (h k (by omega)), ih (by omega) (fun i hi => h i (by omega)), take_snoc_ (by omega)]
    have e : os.take (k + 1 + 1) = os.take (k + 1) ++ [os.getD (k + 1) 0] := by
      rw [List.take_succ_eq_append_getElem (show k + 1 < os.length by omega)]
      simp [List.getD_eq_getElem?_getD, show k + 1 < os.length by omega]
    rw [e]
theorem plN_twice (h : OkM cs os) : plN (plN cs os cs.length).1 (plN cs os cs.length).2 (plN cs os cs.length).1.length = plN cs os cs.length := by
  have hl := plN_len cs os cs.length
  rw [plN_same (Nat.le_refl _) hl (fun i hi => plN_adj cs os cs.length i (by omega)), List.take_length, ← hl, List.take_length]
theorem atC_snoc (l : List ByteArray) (c key : ByteArray) : atC (l ++ [c]) key = if atC l key = l.length ∧ leB c key = true then l.length + 1 else atC l key := by
  unfold atC
  rw [List.takeWhile_append]
  by_cases h : (l.takeWhile fun k => leB k key).length = l.length
  · rw [if_pos h]
    cases hc : leB c key <;> simp [List.takeWhile_cons, hc, h]
  · rw [if_neg h, if_neg (fun e => h e.1)]
theorem atC_all {l : List ByteArray} {key : ByteArray} (h : ∀ k ∈ l, leB k key = true) : atC l key = l.length := by
  unfold atC
  induction l with
  | nil => rfl
  | cons c r ih => simp [List.takeWhile_cons, h c (by simp), ih fun k hk => h k (by simp [hk])]
/-- plain, all keys are whose they were -/
theorem plN_whose (hs : cs.Pairwise (fun a b => ltB a b = true)) (key : ByteArray) {k : Nat} (hk : k ≤ cs.length) : whV (plN cs os k).1 (plN cs os k).2 key = os.getD (atC (cs.take k) key) 0 := by
  induction k with
  | zero => simp [plN, whV, atC]
  | succ k ih =>
    have ih := ih (by omega)
    have hkl : k < cs.length := by omega
    have hck : cs.getD k ByteArray.empty = cs[k] := by simp [List.getD_eq_getElem?_getD, hkl]
    have hsub := plN_sub (cs := cs) os (show k ≤ cs.length by omega)
    rw [take_snoc_ hkl, atC_snoc, hck]
    have htl : (cs.take k).length = k := by rw [List.length_take]; omega
    cases hc : leB cs[k] key with
    | true =>
      have hall : ∀ x ∈ cs.take k, leB x key = true := fun x hx => by
        obtain ⟨i, hi, e⟩ := List.getElem_of_mem hx
        rw [List.getElem_take] at e
        rw [← e]
        exact leB_trans_ (List.pairwise_iff_getElem.1 hs i k (by omega) hkl (by omega)) hc
      have ha := atC_all hall
      rw [if_pos ⟨ha, rfl⟩, htl]
      rw [ha, htl] at ih
      simp only [plN]
      split
      · rename_i h; rw [ih, h]
      · unfold whV
        rw [hck, atC_snoc, if_pos ⟨atC_all fun x hx => hall x (hsub.subset hx), hc⟩]
        simp only [List.getD_eq_getElem?_getD]
        rw [List.getElem?_append_right (by rw [plN_len]; exact Nat.le_refl _), plN_len]
        simp
    | false =>
      rw [if_neg (by simp)]
      simp only [plN]
      split
      · exact ih
      · unfold whV at *
        rw [hck, atC_snoc, if_neg (by simp [hc])]
        rw [← ih]
        simp only [List.getD_eq_getElem?_getD]
        rw [List.getElem?_append_left (by rw [plN_len]; have := atC_le (plN cs os k).1 key; omega)]
end
end Go.Proofs.YtmepmiokpcddbabGreatDoor

namespace Go.Proofs
open Go.Shelf
def Tryz.trim_ren : Go.Shelf.Ren := ⟨fun | 160 => 114 | 232 => 148 | 231 => 147 | 227 => 143 | 234 => 150 | 233 => 149 | 236 => 152 | 235 => 151 | 228 => 144 | 271 => 191 | 151 => 190 | 197 => 180 | 120 => 210 | 152 => 141 | 260 => 206 | 137 => 81 | 119 => 182 | 224 => 183 | 225 => 184 | 217 => 118 | 266 => 154 | n => n, fun | 9 => 9 | 4 => 4 | 3 => 3 | 5 => 5 | 117 => 186 | 116 => 185 | 0 => 0 | 124 => 192 | 21 => 21 | 105 => 216 | 46 => 173 | 119 => 254 | 139 => 257 | 138 => 256 | n => n, fun | 3 => 4 | 4 => 5 | n => n⟩
theorem Tryz.trim : Go.Proofs.Lays.n160 Tryz.prog Tryz.trim_ren := {
  mixed := by kernel_rfl
  f119 := Tryz.func182.trans (congrArg some (by kernel_rfl))
  f120 := Tryz.func210.trans (congrArg some (by kernel_rfl))
  f137 := Tryz.func81.trans (congrArg some (by kernel_rfl))
  f151 := Tryz.func190.trans (congrArg some (by kernel_rfl))
  f152 := Tryz.func141.trans (congrArg some (by kernel_rfl))
  f160 := Tryz.func114.trans (congrArg some (by kernel_rfl))
  f197 := Tryz.func180.trans (congrArg some (by kernel_rfl))
  f217 := Tryz.func118.trans (congrArg some (by kernel_rfl))
  f224 := Tryz.func183.trans (congrArg some (by kernel_rfl))
  f225 := Tryz.func184.trans (congrArg some (by kernel_rfl))
  f227 := Tryz.func143.trans (congrArg some (by kernel_rfl))
  f228 := Tryz.func144.trans (congrArg some (by kernel_rfl))
  f231 := Tryz.func147.trans (congrArg some (by kernel_rfl))
  f232 := Tryz.func148.trans (congrArg some (by kernel_rfl))
  f233 := Tryz.func149.trans (congrArg some (by kernel_rfl))
  f234 := Tryz.func150.trans (congrArg some (by kernel_rfl))
  f235 := Tryz.func151.trans (congrArg some (by kernel_rfl))
  f236 := Tryz.func152.trans (congrArg some (by kernel_rfl))
  f260 := Tryz.func206.trans (congrArg some (by kernel_rfl))
  f266 := Tryz.func154.trans (congrArg some (by kernel_rfl))
  f271 := Tryz.func191.trans (congrArg some (by kernel_rfl))
  t0 := Tryz.underlying0
  a0 := Tryz.isAgg0
  z0 := Tryz.sizeOf0
  v0 := Tryz.zeroValue0
  t3 := Tryz.underlying3
  a3 := Tryz.isAgg3
  z3 := Tryz.sizeOf3
  v3 := Tryz.zeroValue3
  t4 := Tryz.underlying4
  a4 := Tryz.isAgg4
  z4 := Tryz.sizeOf4
  v4 := Tryz.zeroValue4
  t5 := Tryz.underlying5
  a5 := Tryz.isAgg5
  z5 := Tryz.sizeOf5
  v5 := Tryz.zeroValue5
  t9 := Tryz.underlying9
  a9 := Tryz.isAgg9
  z9 := Tryz.sizeOf9
  v9 := Tryz.zeroValue9
  t21 := Tryz.underlying21
  a21 := Tryz.isAgg21
  z21 := Tryz.sizeOf21
  v21 := Tryz.zeroValue21
  t46 := Tryz.underlying173
  a46 := Tryz.isAgg173
  z46 := Tryz.sizeOf173
  v46 := Tryz.zeroValue173
  t105 := Tryz.underlying216
  a105 := Tryz.isAgg216
  z105 := Tryz.sizeOf216
  v105 := Tryz.zeroValue216
  t116 := Tryz.underlying185
  a116 := Tryz.isAgg185
  z116 := Tryz.sizeOf185
  t117 := Tryz.underlying186
  a117 := Tryz.isAgg186
  z117 := Tryz.sizeOf186
  v117 := Tryz.zeroValue186
  t119 := Tryz.underlying254
  a119 := Tryz.isAgg254
  z119 := Tryz.sizeOf254
  t124 := Tryz.underlying192
  a124 := Tryz.isAgg192
  z124 := Tryz.sizeOf192
  v124 := Tryz.zeroValue192
  t138 := Tryz.underlying256
  a138 := Tryz.isAgg256
  z138 := Tryz.sizeOf256
  v138 := Tryz.zeroValue256
  t139 := Tryz.underlying257
  a139 := Tryz.isAgg257
  z139 := Tryz.sizeOf257
  v139 := Tryz.zeroValue257
  g3 := by kernel_rfl
  g4 := by kernel_rfl }
def Tryz.sortS_ren : Go.Shelf.Ren := ⟨fun | 190 => 157 | 125 => 130 | 258 => 193 | 128 => 168 | 129 => 169 | 302 => 212 | 303 => 213 | 304 => 214 | 305 => 215 | 306 => 216 | 307 => 217 | 308 => 218 | 309 => 219 | 310 => 220 | 333 => 227 | 329 => 195 | 330 => 196 | 334 => 228 | 335 => 229 | 336 => 230 | 344 => 234 | n => n, fun | 31 => 25 | 9 => 9 | 3 => 3 | 46 => 173 | 0 => 0 | 51 => 193 | 53 => 134 | 4 => 4 | 183 => 199 | 182 => 198 | 131 => 113 | 5 => 5 | 218 => 228 | 222 => 232 | 228 => 250 | 229 => 251 | n => n, fun | n => n⟩
theorem Tryz.sortS : Go.Proofs.Lays.n190 Tryz.prog Tryz.sortS_ren := {
  mixed := by kernel_rfl
  f125 := Tryz.func130.trans (congrArg some (by kernel_rfl))
  f128 := Tryz.func168.trans (congrArg some (by kernel_rfl))
  f129 := Tryz.func169.trans (congrArg some (by kernel_rfl))
  f190 := Tryz.func157.trans (congrArg some (by kernel_rfl))
  f258 := Tryz.func193.trans (congrArg some (by kernel_rfl))
  f302 := Tryz.func212.trans (congrArg some (by kernel_rfl))
  f303 := Tryz.func213.trans (congrArg some (by kernel_rfl))
  f304 := Tryz.func214.trans (congrArg some (by kernel_rfl))
  f305 := Tryz.func215.trans (congrArg some (by kernel_rfl))
  f306 := Tryz.func216.trans (congrArg some (by kernel_rfl))
  f307 := Tryz.func217.trans (congrArg some (by kernel_rfl))
  f308 := Tryz.func218.trans (congrArg some (by kernel_rfl))
  f309 := Tryz.func219.trans (congrArg some (by kernel_rfl))
  f310 := Tryz.func220.trans (congrArg some (by kernel_rfl))
  f329 := Tryz.func195.trans (congrArg some (by kernel_rfl))
  f330 := Tryz.func196.trans (congrArg some (by kernel_rfl))
  f333 := Tryz.func227.trans (congrArg some (by kernel_rfl))
  f334 := Tryz.func228.trans (congrArg some (by kernel_rfl))
  f335 := Tryz.func229.trans (congrArg some (by kernel_rfl))
  f336 := Tryz.func230.trans (congrArg some (by kernel_rfl))
  f344 := Tryz.func234.trans (congrArg some (by kernel_rfl))
  t0 := Tryz.underlying0
  a0 := Tryz.isAgg0
  z0 := Tryz.sizeOf0
  v0 := Tryz.zeroValue0
  t3 := Tryz.underlying3
  a3 := Tryz.isAgg3
  z3 := Tryz.sizeOf3
  v3 := Tryz.zeroValue3
  t4 := Tryz.underlying4
  a4 := Tryz.isAgg4
  z4 := Tryz.sizeOf4
  v4 := Tryz.zeroValue4
  t5 := Tryz.underlying5
  a5 := Tryz.isAgg5
  z5 := Tryz.sizeOf5
  v5 := Tryz.zeroValue5
  t9 := Tryz.underlying9
  a9 := Tryz.isAgg9
  z9 := Tryz.sizeOf9
  v9 := Tryz.zeroValue9
  t31 := Tryz.underlying25
  a31 := Tryz.isAgg25
  z31 := Tryz.sizeOf25
  v31 := Tryz.zeroValue25
  t46 := Tryz.underlying173
  a46 := Tryz.isAgg173
  z46 := Tryz.sizeOf173
  v46 := Tryz.zeroValue173
  t51 := Tryz.underlying193
  a51 := Tryz.isAgg193
  z51 := Tryz.sizeOf193
  v51 := Tryz.zeroValue193
  t53 := Tryz.underlying134
  a53 := Tryz.isAgg134
  z53 := Tryz.sizeOf134
  v53 := Tryz.zeroValue134
  t131 := Tryz.underlying113
  a131 := Tryz.isAgg113
  z131 := Tryz.sizeOf113
  v131 := Tryz.zeroValue113
  t182 := Tryz.underlying198
  a182 := Tryz.isAgg198
  z182 := Tryz.sizeOf198
  v182 := Tryz.zeroValue198
  t183 := Tryz.underlying199
  a183 := Tryz.isAgg199
  z183 := Tryz.sizeOf199
  v183 := Tryz.zeroValue199
  t218 := Tryz.underlying228
  a218 := Tryz.isAgg228
  z218 := Tryz.sizeOf228
  v218 := Tryz.zeroValue228
  t222 := Tryz.underlying232
  a222 := Tryz.isAgg232
  z222 := Tryz.sizeOf232
  v222 := Tryz.zeroValue232
  t228 := Tryz.underlying250
  a228 := Tryz.isAgg250
  z228 := Tryz.sizeOf250
  v228 := Tryz.zeroValue250
  t229 := Tryz.underlying251
  a229 := Tryz.isAgg251
  z229 := Tryz.sizeOf251
  v229 := Tryz.zeroValue251 }
def Tryz.compS_ren : Go.Shelf.Ren := ⟨fun | 194 => 158 | n => n, fun | 31 => 25 | 9 => 9 | 3 => 3 | 4 => 4 | 0 => 0 | n => n, fun | n => n⟩
theorem Tryz.compS : Go.Proofs.Lays.n194 Tryz.prog Tryz.compS_ren := {
  mixed := by kernel_rfl
  f194 := Tryz.func158.trans (congrArg some (by kernel_rfl))
  t0 := Tryz.underlying0
  a0 := Tryz.isAgg0
  z0 := Tryz.sizeOf0
  v0 := Tryz.zeroValue0
  t3 := Tryz.underlying3
  a3 := Tryz.isAgg3
  z3 := Tryz.sizeOf3
  v3 := Tryz.zeroValue3
  t4 := Tryz.underlying4
  a4 := Tryz.isAgg4
  z4 := Tryz.sizeOf4
  v4 := Tryz.zeroValue4
  t9 := Tryz.underlying9
  a9 := Tryz.isAgg9
  z9 := Tryz.sizeOf9
  v9 := Tryz.zeroValue9
  t31 := Tryz.underlying25
  a31 := Tryz.isAgg25
  z31 := Tryz.sizeOf25
  v31 := Tryz.zeroValue25 }
def Tryz.sortI_ren : Go.Shelf.Ren := ⟨fun | 189 => 98 | 125 => 130 | 257 => 129 | 128 => 168 | 129 => 169 | 294 => 159 | 295 => 160 | 296 => 161 | 297 => 162 | 298 => 163 | 299 => 164 | 216 => 165 | 300 => 166 | 301 => 167 | 328 => 194 | 329 => 195 | 330 => 196 | 331 => 197 | 332 => 198 | 215 => 199 | 343 => 221 | n => n, fun | 28 => 26 | 3 => 3 | 46 => 173 | 0 => 0 | 51 => 193 | 53 => 134 | 4 => 4 | 183 => 199 | 182 => 198 | 131 => 113 | 5 => 5 | 9 => 9 | 218 => 228 | 222 => 232 | 228 => 250 | 229 => 251 | n => n, fun | n => n⟩
theorem Tryz.sortI : Go.Proofs.Lays.n189 Tryz.prog Tryz.sortI_ren := {
  mixed := by kernel_rfl
  f125 := Tryz.func130.trans (congrArg some (by kernel_rfl))
  f128 := Tryz.func168.trans (congrArg some (by kernel_rfl))
  f129 := Tryz.func169.trans (congrArg some (by kernel_rfl))
  f189 := Tryz.func98.trans (congrArg some (by kernel_rfl))
  f215 := Tryz.func199.trans (congrArg some (by kernel_rfl))
  f216 := Tryz.func165.trans (congrArg some (by kernel_rfl))
  f257 := Tryz.func129.trans (congrArg some (by kernel_rfl))
  f294 := Tryz.func159.trans (congrArg some (by kernel_rfl))
  f295 := Tryz.func160.trans (congrArg some (by kernel_rfl))
  f296 := Tryz.func161.trans (congrArg some (by kernel_rfl))
  f297 := Tryz.func162.trans (congrArg some (by kernel_rfl))
  f298 := Tryz.func163.trans (congrArg some (by kernel_rfl))
  f299 := Tryz.func164.trans (congrArg some (by kernel_rfl))
  f300 := Tryz.func166.trans (congrArg some (by kernel_rfl))
  f301 := Tryz.func167.trans (congrArg some (by kernel_rfl))
  f328 := Tryz.func194.trans (congrArg some (by kernel_rfl))
  f329 := Tryz.func195.trans (congrArg some (by kernel_rfl))
  f330 := Tryz.func196.trans (congrArg some (by kernel_rfl))
  f331 := Tryz.func197.trans (congrArg some (by kernel_rfl))
  f332 := Tryz.func198.trans (congrArg some (by kernel_rfl))
  f343 := Tryz.func221.trans (congrArg some (by kernel_rfl))
  t0 := Tryz.underlying0
  a0 := Tryz.isAgg0
  z0 := Tryz.sizeOf0
  v0 := Tryz.zeroValue0
  t3 := Tryz.underlying3
  a3 := Tryz.isAgg3
  z3 := Tryz.sizeOf3
  v3 := Tryz.zeroValue3
  t4 := Tryz.underlying4
  a4 := Tryz.isAgg4
  z4 := Tryz.sizeOf4
  v4 := Tryz.zeroValue4
  t5 := Tryz.underlying5
  a5 := Tryz.isAgg5
  z5 := Tryz.sizeOf5
  v5 := Tryz.zeroValue5
  t9 := Tryz.underlying9
  a9 := Tryz.isAgg9
  z9 := Tryz.sizeOf9
  v9 := Tryz.zeroValue9
  t28 := Tryz.underlying26
  a28 := Tryz.isAgg26
  z28 := Tryz.sizeOf26
  v28 := Tryz.zeroValue26
  t46 := Tryz.underlying173
  a46 := Tryz.isAgg173
  z46 := Tryz.sizeOf173
  v46 := Tryz.zeroValue173
  t51 := Tryz.underlying193
  a51 := Tryz.isAgg193
  z51 := Tryz.sizeOf193
  v51 := Tryz.zeroValue193
  t53 := Tryz.underlying134
  a53 := Tryz.isAgg134
  z53 := Tryz.sizeOf134
  v53 := Tryz.zeroValue134
  t131 := Tryz.underlying113
  a131 := Tryz.isAgg113
  z131 := Tryz.sizeOf113
  v131 := Tryz.zeroValue113
  t182 := Tryz.underlying198
  a182 := Tryz.isAgg198
  z182 := Tryz.sizeOf198
  v182 := Tryz.zeroValue198
  t183 := Tryz.underlying199
  a183 := Tryz.isAgg199
  z183 := Tryz.sizeOf199
  v183 := Tryz.zeroValue199
  t218 := Tryz.underlying228
  a218 := Tryz.isAgg228
  z218 := Tryz.sizeOf228
  v218 := Tryz.zeroValue228
  t222 := Tryz.underlying232
  a222 := Tryz.isAgg232
  z222 := Tryz.sizeOf232
  v222 := Tryz.zeroValue232
  t228 := Tryz.underlying250
  a228 := Tryz.isAgg250
  z228 := Tryz.sizeOf250
  v228 := Tryz.zeroValue250
  t229 := Tryz.underlying251
  a229 := Tryz.isAgg251
  z229 := Tryz.sizeOf251
  v229 := Tryz.zeroValue251 }
def Tryz.compI_ren : Go.Shelf.Ren := ⟨fun | 20 => 99 | n => n, fun | 22 => 26 | 3 => 3 | 4 => 4 | 0 => 0 | n => n, fun | n => n⟩
theorem Tryz.compI : Go.Proofs.Lays2.n20 Tryz.prog Tryz.compI_ren := {
  mixed := by kernel_rfl
  f20 := Tryz.func99.trans (congrArg some (by kernel_rfl))
  t0 := Tryz.underlying0
  a0 := Tryz.isAgg0
  z0 := Tryz.sizeOf0
  v0 := Tryz.zeroValue0
  t3 := Tryz.underlying3
  a3 := Tryz.isAgg3
  z3 := Tryz.sizeOf3
  v3 := Tryz.zeroValue3
  t4 := Tryz.underlying4
  a4 := Tryz.isAgg4
  z4 := Tryz.sizeOf4
  v4 := Tryz.zeroValue4
  t22 := Tryz.underlying26
  a22 := Tryz.isAgg26
  z22 := Tryz.sizeOf26
  v22 := Tryz.zeroValue26
  i3 := by kernel_rfl }
end Go.Proofs
