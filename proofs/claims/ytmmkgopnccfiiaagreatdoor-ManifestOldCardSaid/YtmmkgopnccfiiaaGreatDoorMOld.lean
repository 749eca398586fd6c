/- The library's contracts, laid at this program: strconv.ParseInt, strings.TrimSuffix, slices.Contains. -/
import Derived.Test.YtmmkgopnccfiiaaGreatDoorRows
import Derived.Test.YtmmkgopnccfiiaaGreatDoorManName
import Derived.Test.YtmmkgopnccfiiaaGreatDoorErrAt
import Derived.Test.YtmmkgopnccfiiaaGreatDoorMBase
import Derived.Test.YtmmkgopnccfiiaaGreatDoorManAt
import Derived.Test.YtmmkgopnccfiiaaGreatDoorMFsB
import Derived.Shelf.Strconv.ParseIntPublic10
import Derived.Shelf.Strings.Prefix
import Derived.Shelf.Slices.Turned
import Derived.Lib.SliceRun
import Derived.Deep.LoopGhost
namespace Go.Proofs.YtmmkgopnccfiiaaGreatDoor
open Go.Shelf
def parI_ren : Go.Shelf.Ren := ⟨fun | 174 => 68 | 247 => 100 | 245 => 101 | 287 => 129 | 279 => 130 | 280 => 131 | 281 => 132 | 282 => 133 | 321 => 165 | 322 => 166 | 316 => 93 | 171 => 168 | 205 => 167 | 243 => 193 | 246 => 128 | 283 => 161 | 284 => 162 | 285 => 163 | 286 => 164 | 129 => 160 | 317 => 189 | 318 => 190 | 319 => 191 | 320 => 192 | 337 => 200 | 338 => 201 | n => n, fun | 9 => 9 | 3 => 3 | 2 => 2 | 75 => 107 | 85 => 108 | 4 => 4 | 167 => 167 | 5 => 5 | 53 => 111 | 175 => 168 | 46 => 160 | 168 => 170 | 37 => 51 | 0 => 0 | 210 => 203 | 21 => 21 | 127 => 163 | 145 => 224 | 143 => 222 | 171 => 197 | 173 => 199 | 212 => 220 | 51 => 135 | 20 => 20 | 213 => 221 | 232 => 233 | 233 => 234 | 80 => 206 | n => n, fun | 15 => 1 | 16 => 2 | 17 => 3 | 18 => 5 | 19 => 6 | n => n⟩
theorem parI : Go.Proofs.LaysC.n174 Tryz.prog parI_ren := {
  mixed := by kernel_rfl
  f129 := Tryz.func160.trans (congrArg some (by kernel_rfl))
  f171 := Tryz.func168.trans (congrArg some (by kernel_rfl))
  f174 := Tryz.func68.trans (congrArg some (by kernel_rfl))
  f205 := Tryz.func167.trans (congrArg some (by kernel_rfl))
  f243 := Tryz.func193.trans (congrArg some (by kernel_rfl))
  f245 := Tryz.func101.trans (congrArg some (by kernel_rfl))
  f246 := Tryz.func128.trans (congrArg some (by kernel_rfl))
  f247 := Tryz.func100.trans (congrArg some (by kernel_rfl))
  f279 := Tryz.func130.trans (congrArg some (by kernel_rfl))
  f280 := Tryz.func131.trans (congrArg some (by kernel_rfl))
  f281 := Tryz.func132.trans (congrArg some (by kernel_rfl))
  f282 := Tryz.func133.trans (congrArg some (by kernel_rfl))
  f283 := Tryz.func161.trans (congrArg some (by kernel_rfl))
  f284 := Tryz.func162.trans (congrArg some (by kernel_rfl))
  f285 := Tryz.func163.trans (congrArg some (by kernel_rfl))
  f286 := Tryz.func164.trans (congrArg some (by kernel_rfl))
  f287 := Tryz.func129.trans (congrArg some (by kernel_rfl))
  f316 := Tryz.func93.trans (congrArg some (by kernel_rfl))
  f317 := Tryz.func189.trans (congrArg some (by kernel_rfl))
  f318 := Tryz.func190.trans (congrArg some (by kernel_rfl))
  f319 := Tryz.func191.trans (congrArg some (by kernel_rfl))
  f320 := Tryz.func192.trans (congrArg some (by kernel_rfl))
  f321 := Tryz.func165.trans (congrArg some (by kernel_rfl))
  f322 := Tryz.func166.trans (congrArg some (by kernel_rfl))
  f337 := Tryz.func200.trans (congrArg some (by kernel_rfl))
  f338 := Tryz.func201.trans (congrArg some (by kernel_rfl))
  t0 := Tryz.underlying0
  a0 := Tryz.isAgg0
  z0 := Tryz.sizeOf0
  v0 := Tryz.zeroValue0
  t2 := Tryz.underlying2
  a2 := Tryz.isAgg2
  z2 := Tryz.sizeOf2
  v2 := Tryz.zeroValue2
  t3 := Tryz.underlying3
  a3 := Tryz.isAgg3
  z3 := Tryz.sizeOf3
  v3 := Tryz.zeroValue3
  t4 := Tryz.underlying4
  a4 := Tryz.isAgg4
  z4 := Tryz.sizeOf4
  v4 := Tryz.zeroValue4
  t5 := Tryz.underlying5
  a5 := Tryz.isAgg5
  z5 := Tryz.sizeOf5
  v5 := Tryz.zeroValue5
  t9 := Tryz.underlying9
  a9 := Tryz.isAgg9
  z9 := Tryz.sizeOf9
  v9 := Tryz.zeroValue9
  t20 := Tryz.underlying20
  a20 := Tryz.isAgg20
  z20 := Tryz.sizeOf20
  v20 := Tryz.zeroValue20
  t21 := Tryz.underlying21
  a21 := Tryz.isAgg21
  z21 := Tryz.sizeOf21
  v21 := Tryz.zeroValue21
  t37 := Tryz.underlying51
  a37 := Tryz.isAgg51
  z37 := Tryz.sizeOf51
  v37 := Tryz.zeroValue51
  t46 := Tryz.underlying160
  a46 := Tryz.isAgg160
  z46 := Tryz.sizeOf160
  v46 := Tryz.zeroValue160
  t51 := Tryz.underlying135
  a51 := Tryz.isAgg135
  z51 := Tryz.sizeOf135
  v51 := Tryz.zeroValue135
  t53 := Tryz.underlying111
  a53 := Tryz.isAgg111
  z53 := Tryz.sizeOf111
  v53 := Tryz.zeroValue111
  t75 := Tryz.underlying107
  a75 := Tryz.isAgg107
  z75 := Tryz.sizeOf107
  v75 := Tryz.zeroValue107
  t85 := Tryz.underlying108
  a85 := Tryz.isAgg108
  z85 := Tryz.sizeOf108
  v85 := Tryz.zeroValue108
  t127 := Tryz.underlying163
  a127 := Tryz.isAgg163
  z127 := Tryz.sizeOf163
  v127 := Tryz.zeroValue163
  t143 := Tryz.underlying222
  a143 := Tryz.isAgg222
  z143 := Tryz.sizeOf222
  v143 := Tryz.zeroValue222
  t145 := Tryz.underlying224
  a145 := Tryz.isAgg224
  z145 := Tryz.sizeOf224
  v145 := Tryz.zeroValue224
  t167 := Tryz.underlying167
  a167 := Tryz.isAgg167
  z167 := Tryz.sizeOf167
  v167 := Tryz.zeroValue167
  t168 := Tryz.underlying170
  a168 := Tryz.isAgg170
  z168 := Tryz.sizeOf170
  v168 := Tryz.zeroValue170
  t171 := Tryz.underlying197
  a171 := Tryz.isAgg197
  z171 := Tryz.sizeOf197
  v171 := Tryz.zeroValue197
  t173 := Tryz.underlying199
  a173 := Tryz.isAgg199
  z173 := Tryz.sizeOf199
  v173 := Tryz.zeroValue199
  t175 := Tryz.underlying168
  a175 := Tryz.isAgg168
  z175 := Tryz.sizeOf168
  v175 := Tryz.zeroValue168
  t210 := Tryz.underlying203
  a210 := Tryz.isAgg203
  z210 := Tryz.sizeOf203
  v210 := Tryz.zeroValue203
  t212 := Tryz.underlying220
  a212 := Tryz.isAgg220
  z212 := Tryz.sizeOf220
  v212 := Tryz.zeroValue220
  t213 := Tryz.underlying221
  a213 := Tryz.isAgg221
  z213 := Tryz.sizeOf221
  t232 := Tryz.underlying233
  a232 := Tryz.isAgg233
  z232 := Tryz.sizeOf233
  v232 := Tryz.zeroValue233
  t233 := Tryz.underlying234
  a233 := Tryz.isAgg234
  z233 := Tryz.sizeOf234
  v233 := Tryz.zeroValue234
  g15 := by kernel_rfl
  g16 := by kernel_rfl
  g17 := by kernel_rfl
  g18 := by kernel_rfl
  g19 := by kernel_rfl
  t80 := Tryz.underlying206
  a80 := Tryz.isAgg206
  z80 := Tryz.sizeOf206
  v80 := Tryz.zeroValue206
  i0 := by kernel_rfl
  i2 := by kernel_rfl
  i3 := by kernel_rfl
  i4 := by kernel_rfl
  i5 := by kernel_rfl
  i9 := by kernel_rfl
  i20 := by kernel_rfl
  i21 := by kernel_rfl
  i37 := by kernel_rfl
  i46 := by kernel_rfl
  i51 := by kernel_rfl
  i53 := by kernel_rfl
  i75 := by kernel_rfl
  i80 := by kernel_rfl
  i85 := by kernel_rfl
  i127 := by kernel_rfl
  i143 := by kernel_rfl
  i145 := by kernel_rfl
  i167 := by kernel_rfl
  i168 := by kernel_rfl
  i171 := by kernel_rfl
  i173 := by kernel_rfl
  i175 := by kernel_rfl
  i210 := by kernel_rfl
  i212 := by kernel_rfl
  i232 := by kernel_rfl
  i233 := by kernel_rfl
  m15 := by kernel_rfl
  m16 := by kernel_rfl
  m17 := by kernel_rfl
  m18 := by kernel_rfl
  m19 := by kernel_rfl
  c0 := by kernel_rfl
  c2 := by kernel_rfl
  c3 := by kernel_rfl
  c4 := by kernel_rfl
  c5 := by kernel_rfl
  c9 := by kernel_rfl
  c20 := by kernel_rfl
  c21 := by kernel_rfl
  c37 := by kernel_rfl
  c46 := by kernel_rfl
  c51 := by kernel_rfl
  c53 := by kernel_rfl
  c75 := by kernel_rfl
  c80 := by kernel_rfl
  c85 := by kernel_rfl
  c127 := by kernel_rfl
  c143 := by kernel_rfl
  c145 := by kernel_rfl
  c167 := by kernel_rfl
  c168 := by kernel_rfl
  c171 := by kernel_rfl
  c173 := by kernel_rfl
  c175 := by kernel_rfl
  c210 := by kernel_rfl
  c212 := by kernel_rfl
  c213 := by kernel_rfl
  c232 := by kernel_rfl
  c233 := by kernel_rfl }
def trimS_ren : Go.Shelf.Ren := ⟨fun | 102 => 69 | 209 => 102 | 207 => 134 | n => n, fun | 9 => 9 | 4 => 4 | 3 => 3 | n => n, fun | n => n⟩
theorem trimS : Go.Proofs.Lays.n102 Tryz.prog trimS_ren := {
  mixed := by kernel_rfl
  f102 := Tryz.func69.trans (congrArg some (by kernel_rfl))
  f207 := Tryz.func134.trans (congrArg some (by kernel_rfl))
  f209 := Tryz.func102.trans (congrArg some (by kernel_rfl))
  t3 := Tryz.underlying3
  a3 := Tryz.isAgg3
  z3 := Tryz.sizeOf3
  v3 := Tryz.zeroValue3
  t4 := Tryz.underlying4
  a4 := Tryz.isAgg4
  z4 := Tryz.sizeOf4
  v4 := Tryz.zeroValue4
  t9 := Tryz.underlying9
  a9 := Tryz.isAgg9
  z9 := Tryz.sizeOf9
  v9 := Tryz.zeroValue9 }
def hasS_ren : Go.Shelf.Ren := ⟨fun | 110 => 34 | 109 => 67 | n => n, fun | 31 => 33 | 9 => 9 | 4 => 4 | 3 => 3 | 0 => 0 | n => n, fun | n => n⟩
theorem hasS : Go.Proofs.Lays.n110 Tryz.prog hasS_ren := {
  mixed := by kernel_rfl
  f109 := Tryz.func67.trans (congrArg some (by kernel_rfl))
  f110 := Tryz.func34.trans (congrArg some (by kernel_rfl))
  t0 := Tryz.underlying0
  a0 := Tryz.isAgg0
  z0 := Tryz.sizeOf0
  v0 := Tryz.zeroValue0
  t3 := Tryz.underlying3
  a3 := Tryz.isAgg3
  z3 := Tryz.sizeOf3
  v3 := Tryz.zeroValue3
  t4 := Tryz.underlying4
  a4 := Tryz.isAgg4
  z4 := Tryz.sizeOf4
  v4 := Tryz.zeroValue4
  t9 := Tryz.underlying9
  a9 := Tryz.isAgg9
  z9 := Tryz.sizeOf9
  v9 := Tryz.zeroValue9
  t31 := Tryz.underlying33
  a31 := Tryz.isAgg33
  z31 := Tryz.sizeOf33
  v31 := Tryz.zeroValue33 }
end Go.Proofs.YtmmkgopnccfiiaaGreatDoor
/- manifest: is a name that of a log whose number is not below another? -/
namespace Go.Proofs.YtmmkgopnccfiiaaGreatDoor
set_option linter.unusedVariables false
open Go.RowKit Go.Shelf
def logT : ByteArray := ⟨#[46, 108, 111, 103]⟩
/-- A name without the end of a log's. -/
def stemN (x : ByteArray) : ByteArray := ⟨(Lib.trimSuffix x.data.toList logT.data.toList).toArray⟩
theorem stem_small (x : ByteArray) : (stemN x).size ≤ x.size := by
  unfold stemN Lib.trimSuffix
  have e : x.size = x.data.toList.length := by cases x; rfl
  split
  · show (List.toArray _).size ≤ _
    rw [List.size_toArray, List.length_take, e]; omega
  · show (List.toArray _).size ≤ _
    rw [List.size_toArray, e]; exact Nat.le_refl _
/-- Is the name x that of a log from the number least on? -/
def logFrom (least : Int) (x : ByteArray) : Bool :=
  match Lib.parseIntB 64 (stemN x).data.toList with
  | .ok v => decide (least ≤ v ∧ v ≤ 1125899906842624) && decide (numN v.toNat logT = x)
  | _ => false
theorem pint_below {w w' : World} {E : TypeId} (h : w' = w ∨ ∃ t, w' = Lib.bytesWorld w E t) : Below w.heap.size w w' := by
  rcases h with rfl | ⟨t, rfl⟩
  · exact Below.refl _ _
  · exact ⟨rfl, rfl, rfl, by rw [Lib.bytesWorld_size]; omega, fun b hb => Lib.bytesWorld_at_old w E t b hb⟩
/-- No number, and not too great a one. -/
def badNum (r : Lib.NumEnd Int) : Bool := match r with
  | .ok _ => false
  | .range => false
  | _ => true
theorem pint_ok (s : ByteArray) (hs : s.size ≤ 1000000) (v : Int) (h : Lib.parseIntB 64 s.data.toList = .ok v) (w : World) :
    Calls Tryz.prog 68 #[.string s, .int .i64 10, .int .i64 64] w fun e w' => e = .returned (.tuple #[.int .i64 v, .nilIface]) ∧ Below w.heap.size w w' := by
  refine (Any.strconv_ParseInt_10_at64_ok parI s (by omega) v h w).mono ?_
  rintro e w' ⟨rfl, hw⟩
  exact ⟨rfl, pint_below hw⟩
theorem pint_syn (s : ByteArray) (hs : s.size ≤ 1000000) (h : badNum (Lib.parseIntB 64 s.data.toList) = true) (w : World) (hE : ErrAt w) :
    Calls Tryz.prog 68 #[.string s, .int .i64 10, .int .i64 64] w fun e w' => ∃ t p, e = .returned (.tuple #[.int .i64 0, .iface t p]) ∧ Below w.heap.size w w' := by
  obtain ⟨t, p, h1, h2⟩ := hE
  cases hq : Lib.parseIntB 64 s.data.toList
  · rw [hq] at h; cases h
  · refine (Any.strconv_ParseInt_10_at64_syntax parI s (by omega) hq (.iface t p) w h1 (.inr ⟨t, p, rfl⟩)).mono ?_
    rintro e w' ⟨N, rfl, -, -, hb⟩
    exact ⟨_, _, rfl, hb⟩
  · rw [hq] at h; cases h
theorem trim_any (x : ByteArray) (hx : x.size ≤ 1000000) (w : World) :
    Calls Tryz.prog 69 #[.string x, .string ⟨#[46, 108, 111, 103]⟩] w fun e w' => e = .returned (.string (stemN x)) ∧ w' = w :=
  Any.strings_TrimSuffix trimS x logT w (by omega)
set_option maxHeartbeats 2000000 in
theorem isLog_syn (least : Int) (x : ByteArray) (hx : x.size ≤ 1000000) (h : badNum (Lib.parseIntB 64 (stemN x).data.toList) = true) (w : World) (hE : ErrAt w) :
    Calls Tryz.prog 35 #[.int .i64 least, .string x] w fun e w' => e = .returned (.bool false) ∧ Below w.heap.size w w' := by
  have HT := Lib.hid (trim_any x hx w)
  have HP := Lib.hid (pint_syn (stemN x) (Nat.le_trans (stem_small x) hx) h w hE)
  clear h hE hx
  generalize stemN x = T at *
  go_enter Tryz.func35, Tryz.ntmps35
  go_wp2_with fail
  refine HT.out.mono ?_
  rintro e w1 ⟨rfl, rfl⟩
  go_wp2_with fail
  refine HP.out.mono ?_
  rintro e w2 ⟨t, p, rfl, hb⟩
  have HB := Lib.hid hb
  clear hb HP HT
  go_wp2_with fail
  go_ret
  exact ⟨rfl, HB.out⟩
set_option maxHeartbeats 4000000 in
theorem isLog_ok (least : Int) (h0 : 0 ≤ least) (h1 : least ≤ 9223372036854775807) (x : ByteArray) (hx : x.size ≤ 1000000) (v : Int) (hv0 : -9223372036854775808 ≤ v) (hv1 : v ≤ 9223372036854775807) (h : Lib.parseIntB 64 (stemN x).data.toList = .ok v) (w : World) (hT : PowAt w) :
    Calls Tryz.prog 35 #[.int .i64 least, .string x] w fun e w' => e = .returned (.bool (decide (least ≤ v ∧ v ≤ 1125899906842624) && decide (numN v.toNat logT = x))) ∧ Below w.heap.size w w' := by
  have HT := Lib.hid (trim_any x hx w)
  have HP := Lib.hid (pint_ok (stemN x) (Nat.le_trans (stem_small x) hx) v h w)
  clear h
  generalize stemN x = T at *
  by_cases c1 : v < least
  · have e : (decide (least ≤ v ∧ v ≤ 1125899906842624) && decide (numN v.toNat logT = x)) = false := by rw [decide_eq_false (by omega)]; rfl
    rw [e]
    clear e hT
    go_enter Tryz.func35, Tryz.ntmps35
    go_wp2_with fail
    refine HT.out.mono ?_
    rintro e w1 ⟨rfl, rfl⟩
    go_wp2_with fail
    refine HP.out.mono ?_
    rintro e w2 ⟨rfl, hb⟩
    have HB := Lib.hid hb
    clear hb HP HT
    go_wp2_with fail
    go_ret
    exact ⟨rfl, HB.out⟩
  by_cases c2 : 1125899906842624 < v
  · have e : (decide (least ≤ v ∧ v ≤ 1125899906842624) && decide (numN v.toNat logT = x)) = false := by rw [decide_eq_false (by omega)]; rfl
    rw [e]
    clear e hT
    go_enter Tryz.func35, Tryz.ntmps35
    go_wp2_with fail
    refine HT.out.mono ?_
    rintro e w1 ⟨rfl, rfl⟩
    go_wp2_with fail
    refine HP.out.mono ?_
    rintro e w2 ⟨rfl, hb⟩
    have HB := Lib.hid hb
    clear hb HP HT
    go_wp2_with fail
    go_ret
    exact ⟨rfl, HB.out⟩
  · rw [decide_eq_true (show least ≤ v ∧ v ≤ 1125899906842624 by omega), Bool.true_and]
    obtain ⟨u, rfl⟩ : ∃ u : Nat, v = (u : Int) := ⟨v.toNat, by omega⟩
    have HN : Hid (∀ W, PowAt W → Calls Tryz.prog 65 #[.int .i64 (u : Int), .string ⟨#[46, 108, 111, 103]⟩] W fun e w' => e = .returned (.string (numN u logT)) ∧ Below W.heap.size W w') := Lib.hid fun W hW => numbered_any u (by omega) logT (by decide) W hW
    rw [Int.toNat_natCast]
    generalize numN u logT = R at *
    have HQ := Lib.hid hT
    clear hT
    go_enter Tryz.func35, Tryz.ntmps35
    go_wp2_with fail
    refine HT.out.mono ?_
    rintro e w1 ⟨rfl, rfl⟩
    go_wp2_with fail
    refine HP.out.mono ?_
    rintro e w2 ⟨rfl, hb⟩
    have HB := Lib.hid hb
    have HR := Lib.hid (HN.out w2 (HQ.out.below hb))
    clear hb HP HT HN HQ
    go_wp2_with fail
    refine HR.out.mono ?_
    rintro e w3 ⟨rfl, hb⟩
    have HB2 := Lib.hid (HB.out.trans (hb.mono HB.out.size))
    clear hb HB HR
    go_wp2_with fail
    go_ret
    exact ⟨congrArg (fun b => Ending.returned (Value.bool b)) (bs_eq R x), HB2.out⟩
theorem isLog_any (least : Int) (h0 : 0 ≤ least) (h1 : least ≤ 9223372036854775807) (x : ByteArray) (hx : x.size ≤ 1000000) (hr : Lib.parseIntB 64 (stemN x).data.toList ≠ .range) (w : World) (hT : PowAt w) (hE : ErrAt w) :
    Calls Tryz.prog 35 #[.int .i64 least, .string x] w fun e w' => e = .returned (.bool (logFrom least x)) ∧ Below w.heap.size w w' := by
  unfold logFrom
  cases h : Lib.parseIntB 64 (stemN x).data.toList
  · rename_i v
    by_cases hv : -9223372036854775808 ≤ v ∧ v ≤ 9223372036854775807
    · exact isLog_ok least h0 h1 x hx v hv.1 hv.2 h w hT
    · exfalso
      apply hv
      revert h
      unfold Lib.parseIntB
      split
      · intro h; cases h
      · simp only
        split
        · intro h; cases h
        · intro h; cases h
        · split
          · intro h; cases h
          · split
            · intro h; cases h
            · intro h
              injection h with h
              split at h <;> omega
  · exact isLog_syn least x hx (by rw [h]; rfl) w hE
  · exact absurd h hr
end Go.Proofs.YtmmkgopnccfiiaaGreatDoor
/- The tables and Log of a version that is a manifest's field. -/
namespace Go.Proofs.YtmmkgopnccfiiaaGreatDoor
set_option linter.unusedVariables false
open Go.RowKit Go.Maps
set_option maxHeartbeats 1000000 in
theorem vall_off {B : Nat} {w : World} {mb : Nat} {tv : Value} {n0 : Int} {V : Ver} (c3 : w.cell? ⟨mb, 3, none⟩ = some tv) (h : VerP B w tv n0 V) : Calls Tryz.prog 64 #[.pointer (some ⟨mb, 3, none⟩)] w (FilsTo w V.fs) := by
  have HC := Lib.hid (fclone_any tv V.fs w (h.row.rd encTbf_len) (by have := h.good.few; omega))
  obtain ⟨a, cap, rfl⟩ := fil_form h.row
  clear h
  generalize V.fs = l at *
  generalize l.length = n at *
  unfold FilsTo
  go_enter Tryz.func64, Tryz.ntmps64
  go_wp2_with fail
  refine HC.out.mono ?_
  rintro e w' ⟨u, rfl, ho, hb⟩
  have HO := Lib.hid (And.intro ho hb)
  clear ho hb HC
  go_wp2_with fail
  go_ret
  exact ⟨_, rfl, HO.out.1, HO.out.2⟩
set_option maxHeartbeats 1000000 in
theorem vlog_off {w : World} {mb : Nat} {l0 : Int} (c5 : w.cell? ⟨mb, 5, none⟩ = some (.int .i64 l0)) :
    Calls Tryz.prog 36 #[.pointer (some ⟨mb, 3, none⟩)] w fun e w' => e = .returned (.int .i64 l0) ∧ w' = w := by
  go_enter Tryz.func36, Tryz.ntmps36
  go_wp2_with fail
  go_ret
  exact ⟨rfl, rfl⟩
end Go.Proofs.YtmmkgopnccfiiaaGreatDoor
/- slices.IndexFunc and slices.DeleteFunc of texts, by a function that makes memory. -/
namespace Go.Proofs.YtmmkgopnccfiiaaGreatDoor
set_option linter.unusedVariables false
set_option maxRecDepth 100000
open Go.RowKit
/-- The first place of which p holds, or -1. -/
def NIdx (p : ByteArray → Bool) (xs : List ByteArray) (i : Int) : Prop :=
  (∃ (j : Nat) (x : ByteArray), i = (j : Int) ∧ xs[j]? = some x ∧ p x = true ∧ ∀ (m : Nat) (y : ByteArray), m < j → xs[m]? = some y → p y = false) ∨ i = -1 ∧ ∀ x ∈ xs, p x = false
/-- What of the first j is kept lies in front. -/
structure KInv (p : ByteArray → Bool) (xs : List ByteArray) (j i : Nat) (ys : List ByteArray) : Prop where
  len : ys.length = xs.length
  le : i ≤ j
  front : ys.take i = (xs.take j).filter (fun x => !p x)
  rest : ys.drop j = xs.drop j
theorem KInv.start {p : ByteArray → Bool} {xs : List ByteArray} {k : Nat} {x : ByteArray} (hx : xs[k]? = some x) (hp : p x = true) (h : ∀ (m : Nat) (y : ByteArray), m < k → xs[m]? = some y → p y = false) : KInv p xs (k + 1) k xs := by
  refine ⟨rfl, by omega, ?_, rfl⟩
  have e : (xs.take k).filter (fun x => !p x) = xs.take k := by
    rw [List.filter_eq_self]
    intro y hy
    obtain ⟨m, hm, rfl⟩ := List.getElem_of_mem hy
    have hm2 : m < k ∧ m < xs.length := by rw [List.length_take] at hm; omega
    have := h m _ hm2.1 (List.getElem?_eq_getElem hm2.2)
    rw [List.getElem_take]
    rw [this]; rfl
  rw [List.take_add_one, hx, List.filter_append, e, Option.toList_some]
  simp [hp]
theorem KInv.keep {p : ByteArray → Bool} {xs ys : List ByteArray} {j i : Nat} {u : ByteArray} (h : KInv p xs j i ys) (hu : xs[j]? = some u) (hp : p u = false) : KInv p xs (j + 1) (i + 1) (ys.set i u) := by
  have hj := (List.getElem?_eq_some_iff.1 hu).1
  have hl := h.len
  have hle := h.le
  refine ⟨by rw [List.length_set, h.len], by omega, ?_, ?_⟩
  · rw [List.take_add_one (l := xs), hu, List.filter_append, ← h.front, Option.toList_some, List.take_add_one, List.take_set_of_le (by omega), List.getElem?_set_self (by omega)]
    simp [hp]
  · rw [List.drop_set_of_lt (by omega), ← List.drop_drop, h.rest, List.drop_drop]
theorem KInv.skip {p : ByteArray → Bool} {xs ys : List ByteArray} {j i : Nat} {u : ByteArray} (h : KInv p xs j i ys) (hu : xs[j]? = some u) (hp : p u = true) : KInv p xs (j + 1) i ys := by
  have hle := h.le
  refine ⟨h.len, by omega, ?_, ?_⟩
  · rw [List.take_add_one (l := xs), hu, List.filter_append, ← h.front, Option.toList_some]
    simp [hp]
  · rw [← List.drop_drop, h.rest, List.drop_drop]
theorem KInv.at {p : ByteArray → Bool} {xs ys : List ByteArray} {j i : Nat} {u : ByteArray} (h : KInv p xs j i ys) (hu : xs[j]? = some u) : ys[j]? = some u := by
  have e : (ys.drop j)[0]? = (xs.drop j)[0]? := by rw [h.rest]
  rw [List.getElem?_drop, List.getElem?_drop] at e
  simpa [hu] using e
theorem KInv.done {p : ByteArray → Bool} {xs ys : List ByteArray} {j i : Nat} (h : KInv p xs j i ys) (hj : xs.length ≤ j) (hi : i ≤ xs.length) : ys.take i = xs.filter (fun x => !p x) ∧ i = (xs.filter (fun x => !p x)).length := by
  have e := h.front
  rw [List.take_of_length_le hj] at e
  refine ⟨e, ?_⟩
  rw [← e, List.length_take, h.len]; omega
theorem RdV.nam {w : World} {g n cap : Nat} {xs : List ByteArray} (h : RdV w (.slice (some ⟨g, 0, none⟩) n cap) (xs.map Value.string)) {q : Nat} {x : ByteArray} (hx : xs[q]? = some x) : w.cell? ⟨g, q, none⟩ = some (.string x) := by
  have hq := (List.getElem?_eq_some_iff.1 hx).1
  rcases h with ⟨_, _, _, e⟩ | ⟨b, off, c, e, h1, h2, h3, h4, h5⟩
  · rw [List.map_eq_nil_iff] at e; subst e; simp at hq
  · simp only [Value.slice.injEq, Option.some.injEq, Addr.mk.injEq] at e
    obtain ⟨⟨rfl, rfl, -⟩, -, -⟩ := e
    have := h5 q (by rw [List.length_map]; exact hq)
    rw [Nat.zero_add] at this
    rw [this, List.getD_eq_getElem?_getD, List.getElem?_map, hx]; rfl
theorem OwnV.free {E B : Nat} {w : World} {g n cap : Nat} {vs : List Value} (h : OwnV E B w (.slice (some ⟨g, 0, none⟩) n cap) vs) (q : Nat) : w.frozen? ⟨g, q, none⟩ = false := by
  rcases h.2 with ⟨e, _⟩ | ⟨g', c', cur, e1, e2, e3, e4⟩
  · cases e
  · simp only [Value.slice.injEq, Option.some.injEq, Addr.mk.injEq] at e1
    obtain ⟨⟨rfl, -, -⟩, -, -⟩ := e1
    simp only [World.frozen?, e3]; simp
/-- Cells from o on are written. -/
theorem OwnV.setAll {E B : Nat} {g n cap : Nat} : ∀ (us : List Value) (w : World) (o : Nat) (vs : List Value), OwnV E B w (.slice (some ⟨g, 0, none⟩) n cap) vs → ∃ vs', OwnV E B (w.setCells g o us) (.slice (some ⟨g, 0, none⟩) n cap) vs' ∧ vs'.take o = vs.take o ∧ vs'.length = vs.length ∧ UpdF (fun j => j = g) w (w.setCells g o us)
  | [], w, o, vs, h => ⟨vs, h, rfl, rfl, UpdF.refl _ _⟩
  | u :: r, w, o, vs, h => by
    obtain ⟨vs', h1, h2, h3, h4⟩ := OwnV.setAll r _ (o + 1) _ (h.setAt o u)
    refine ⟨vs', h1, ?_, by rw [h3, List.length_set], ((UpdF.refl (fun j => j = g) w).set g o u rfl).trans h4⟩
    have : (vs'.take (o + 1)).take o = ((vs.set o u).take (o + 1)).take o := by rw [h2]
    rwa [List.take_take, List.take_take, Nat.min_eq_left (by omega), List.take_set_of_le (Nat.le_refl _)] at this
theorem sl_hN (W : World) (a : Option Addr) (n cap k : Nat) (hc : k ≤ cap) :
    (Instr.sliceAt 33 (.slice a n cap) none (some (.int .i64 (k : Int))) none).run Tryz.prog W = .ok (.slice a k cap) W := by
  have hT : Tryz.prog.underlying 33 = some (.slice (Tryz.prog.elem 33)) := by kernel_rfl
  have hS : (sizeOf (Tryz.prog.elem 33)).run Tryz.prog W = .ok 1 W := by kernel_rfl
  rw [run_sliceAt_slice (h := hT), run_slice_h (w := W) (t := 33) (a := a) (len := n) (cap := cap) (ht := hT) (kh := .i64) (h := k) (h0 := by omega) (h2 := by omega), hS]
  simp [Result.andThen, sliced, map_add0]
theorem sl_lN (W : World) (a : Option Addr) (n cap k : Nat) (h : k ≤ n) (hc : n ≤ cap) :
    (Instr.sliceAt 33 (.slice a n cap) (some (.int .i64 (k : Int))) none none).run Tryz.prog W = .ok (.slice (if cap = k then a else a.map (·.add k)) (n - k) (cap - k)) W := by
  have hT : Tryz.prog.underlying 33 = some (.slice (Tryz.prog.elem 33)) := by kernel_rfl
  have hS : (sizeOf (Tryz.prog.elem 33)).run Tryz.prog W = .ok 1 W := by kernel_rfl
  rw [run_sliceAt_slice (h := hT), run_slice_l (w := W) (t := 33) (a := a) (len := n) (cap := cap) (ht := hT) (kl := .i64) (l := k) (h0 := by omega) (h1 := by omega), hS]
  simp [Result.andThen, sliced]
theorem clear_names {B : Nat} {w : World} {g n cap : Nat} {vs : List Value} (h : OwnV 9 B w (.slice (some ⟨g, 0, none⟩) n cap) vs) (hn : vs.length = n) (k : Nat) (hk : k < n) (hs : ∀ v ∈ vs, ∃ s, v = Value.string s) (ty : TypeId) :
    ∃ w' vs', (Builtin.clear_ #[33] ty #[.slice (some ⟨g, k, none⟩) (n - k) (cap - k)]).run Tryz.prog w = .ok (.tuple #[]) w' ∧ OwnV 9 B w' (.slice (some ⟨g, 0, none⟩) n cap) vs' ∧ vs'.take k = vs.take k ∧ vs'.length = n ∧ UpdF (fun j => j = g) w w' := by
  obtain ⟨vs', h1, h2, h3, h4⟩ := h.setAll (List.replicate (n - k) (.string ⟨#[]⟩)) w k vs
  refine ⟨_, vs', ?_, h1, h2, by rw [h3, hn], h4⟩
  refine Lib.run_clear_slice w 33 9 ty (.string ⟨#[]⟩) Tryz.underlying33 (fun w => by kernel_rfl) rfl rfl g k (n - k) (cap - k) (by omega) (fun j hj => ?_) (fun j _ => h.free _)
  rcases h.rd with ⟨_, _, _, e⟩ | ⟨b, off, c, e, _, _, _, _, h6⟩
  · subst e; simp at hn; omega
  · simp only [Value.slice.injEq, Option.some.injEq, Addr.mk.injEq] at e
    obtain ⟨⟨rfl, rfl, -⟩, -, -⟩ := e
    have := h6 (k + j) (by omega)
    rw [Nat.zero_add] at this
    rw [this]; rfl
set_option maxHeartbeats 4000000 in
theorem nidx_any (p : ByteArray → Bool) (G g n cap : Nat) (k1 k2 : Value) (xs : List ByteArray) (hn : xs.length = n) (hl : n ≤ 1000000000000) (w : World) (h : RdV w (.slice (some ⟨g, 0, none⟩) n cap) (xs.map Value.string))
    (hen : ∀ args w, (callFunc G args).run Tryz.prog w = .ok (.enter G args) w)
    (hP : ∀ x ∈ xs, ∀ W : World, UpdF (fun j => j = g) w W → Calls Tryz.prog G #[.string x, k1, k2] W fun e w' => e = .returned (.bool (p x)) ∧ Below W.heap.size W w') :
    Calls Tryz.prog 66 #[.slice (some ⟨g, 0, none⟩) n cap, .func (.func G) #[] #[k1, k2]] w fun e w' => ∃ i : Int, e = .returned (.int .i64 i) ∧ NIdx p xs i ∧ Below w.heap.size w w' := by
  have HRD := Lib.hid h
  have HN := Lib.hid hn
  have HP := Lib.hid hP
  clear h hn hP
  go_enter Tryz.func66, Tryz.ntmps66
  go_wp2_with fail
  go_loopg [5, 8] n (fun kk _ vi wr => ∃ i : Nat, vi = .int .i64 (i : Int) ∧ i ≤ n ∧ n - i ≤ kk ∧ Hid (∀ (j : Nat) (x : ByteArray), j < i → xs[j]? = some x → p x = false) ∧ Hid (Below w.heap.size w wr))
  case atStart => exact ⟨0, rfl, by omega, by omega, Lib.hid (fun j x hj => by omega), Lib.hid (Below.refl _ _)⟩
  case round =>
    obtain ⟨q, rfl, hq, hkk, HG, HB⟩ := hrel
    by_cases h1 : q < n
    · have hd1 : (q : Int) < (n : Int) := by omega
      have hd0 : (0 : Int) ≤ (q : Int) := by omega
      obtain ⟨x, hx⟩ : ∃ x, xs[q]? = some x := ⟨xs[q]'(by have := HN.out; omega), List.getElem?_eq_getElem _⟩
      have d0 := (HRD.out.below HB.out).nam hx
      have HX := Lib.hid hx
      have HC := Lib.hid (HP.out x (List.mem_of_getElem? hx) wr (UpdF.of HB.out))
      clear hx
      obtain ⟨V, hV⟩ : ∃ V, p x = V := ⟨_, rfl⟩
      rw [hV] at HC
      have HV := Lib.hid hV
      clear hV
      go_wp2_with fail
      refine HC.out.mono ?_
      rintro e w2 ⟨rfl, hb⟩
      have HB2 := Lib.hid (HB.out.trans (hb.mono HB.out.size))
      clear hb HC HB d0
      cases V with
      | true =>
        have HF : Hid (NIdx p xs (q : Int)) := Lib.hid (.inl ⟨q, _, rfl, HX.out, HV.out, HG.out⟩)
        clear HV HX HG
        go_wp2_with fail
        go_ret
        exact ⟨_, rfl, HF.out, HB2.out⟩
      | false =>
        have HG2 : Hid (∀ (j : Nat) (x : ByteArray), j < q + 1 → xs[j]? = some x → p x = false) := Lib.hid fun j y hj hy => by
          rcases Nat.lt_or_ge j q with h | h
          · exact HG.out j y h hy
          · obtain rfl : j = q := by omega
            rw [HX.out] at hy
            obtain rfl := Option.some.inj hy
            exact HV.out
        clear HV HX HG
        go_wp2_with fail
        go_roundg (n - (q + 1))
        case measure => omega
        case rel => exact ⟨q + 1, by go_num, by omega, Nat.le_refl _, HG2, HB2⟩
    · have hd1 : ¬ (q : Int) < (n : Int) := by omega
      have HF : Hid (NIdx p xs (-1)) := Lib.hid (.inr ⟨rfl, fun x hx => by
        obtain ⟨j, hj, rfl⟩ := List.getElem_of_mem hx
        exact HG.out j _ (by have := HN.out; omega) (List.getElem?_eq_getElem hj)⟩)
      clear HG
      go_wp2_with fail
      go_ret
      exact ⟨_, rfl, HF.out, HB.out⟩
/-- What DeleteFunc leaves: the texts that p does not hold of, in front. -/
def NDel (p : ByteArray → Bool) (xs : List ByteArray) (g cap : Nat) (w : World) (e : Ending) (w' : World) : Prop :=
  ∃ k : Nat, e = .returned (.slice (some ⟨g, 0, none⟩) k cap) ∧ RdV w' (.slice (some ⟨g, 0, none⟩) k cap) ((xs.filter (fun x => !p x)).map Value.string) ∧ UpdF (fun j => j = g) w w'
set_option maxHeartbeats 8000000 in
theorem ndel_any (p : ByteArray → Bool) (G : Nat) {B g n cap : Nat} (k1 k2 : Value) (xs : List ByteArray) (hn : xs.length = n) (hl : n ≤ 1000000000000) (hc : n ≤ cap) (w : World) (h : OwnV 9 B w (.slice (some ⟨g, 0, none⟩) n cap) (xs.map Value.string))
    (hen : ∀ args w, (callFunc G args).run Tryz.prog w = .ok (.enter G args) w)
    (hP : ∀ x ∈ xs, ∀ W : World, UpdF (fun j => j = g) w W → Calls Tryz.prog G #[.string x, k1, k2] W fun e w' => e = .returned (.bool (p x)) ∧ Below W.heap.size W w') :
    Calls Tryz.prog 32 #[.slice (some ⟨g, 0, none⟩) n cap, .func (.func G) #[] #[k1, k2]] w (NDel p xs g cap w) := by
  have HI := Lib.hid (nidx_any p G g n cap k1 k2 xs hn hl w h.rd hen hP)
  have HRD := Lib.hid h
  have HN := Lib.hid hn
  have HP := Lib.hid hP
  clear h hn hP
  unfold NDel
  go_enter Tryz.func32, Tryz.ntmps32
  go_wp2_with fail
  refine HI.out.mono ?_
  rintro e w2 ⟨i, rfl, hi, hb⟩
  have HO2 := Lib.hid (HRD.out.below hb)
  have HB2 : Hid (UpdF (fun j => j = g) w w2) := Lib.hid (UpdF.of hb)
  clear hb HI
  rcases hi with ⟨q0, x0, rfl, hx0, hp0, hall⟩ | ⟨rfl, hall⟩
  · have hq0 : q0 < n := by have := (List.getElem?_eq_some_iff.1 hx0).1; have := HN.out; omega
    have hne : ¬ (q0 : Int) = -1 := by omega
    have HK := Lib.hid (KInv.start hx0 hp0 hall)
    clear hx0 hp0 hall
    go_wp2_with fail
    clear hne
    go_loopg [5, 6, 7] n (fun gg s5 s6 _ wr => ∃ (i j : Nat) (ys : List ByteArray), s5 = .int .i64 (i : Int) ∧ s6 = .int .i64 (j : Int) ∧ j ≤ n ∧ i < j ∧ n - j ≤ gg ∧ Hid (KInv p xs j i ys) ∧ Hid (OwnV 9 B wr (.slice (some ⟨g, 0, none⟩) n cap) (ys.map Value.string)) ∧ Hid (UpdF (fun j => j = g) w wr))
    case atStart => exact ⟨q0, q0 + 1, xs, rfl, by go_num, by omega, by omega, by omega, HK, HO2, HB2⟩
    case round =>
      clear HK HO2 HB2
      obtain ⟨i, j, ys, rfl, rfl, hj, hij, hgg, HK, HO, HU⟩ := hrel
      by_cases hlt : j < n
      · have hd1 : (j : Int) < (n : Int) := by omega
        have hd0 : (0 : Int) ≤ (j : Int) := by omega
        have hi1 : (i : Int) < (n : Int) := by omega
        have hi0 : (0 : Int) ≤ (i : Int) := by omega
        obtain ⟨u, hu⟩ : ∃ x, xs[j]? = some x := ⟨xs[j]'(by have := HN.out; omega), List.getElem?_eq_getElem _⟩
        have cj := HO.out.rd.nam (HK.out.at hu)
        have HC := Lib.hid (HP.out u (List.mem_of_getElem? hu) wr HU.out)
        have HX := Lib.hid hu
        clear hu
        obtain ⟨V, hV⟩ : ∃ V, p u = V := ⟨_, rfl⟩
        rw [hV] at HC
        have HV := Lib.hid hV
        clear hV
        go_wp2_with fail
        refine HC.out.mono ?_
        rintro e w3 ⟨rfl, hb⟩
        have HO3 := Lib.hid (HO.out.below hb)
        have HU3 := Lib.hid (HU.out.trans (UpdF.of hb))
        clear hb HC HO HU cj
        cases V with
        | true =>
          have HK3 := Lib.hid (HK.out.skip HX.out HV.out)
          clear HK HX HV
          go_wp2_with fail
          go_roundg (n - (j + 1))
          case measure => omega
          case rel => exact ⟨i, j + 1, ys, rfl, by go_num, by omega, by omega, Nat.le_refl _, HK3, HO3, HU3⟩
        | false =>
          have HK3 := Lib.hid (HK.out.keep HX.out HV.out)
          have HO4 : Hid (OwnV 9 B (w3.setCell ⟨g, i, none⟩ (.string u)) (.slice (some ⟨g, 0, none⟩) n cap) ((ys.set i u).map Value.string)) := Lib.hid (by rw [List.map_set]; exact HO3.out.setAt i (.string u))
          have HU4 := Lib.hid (HU3.out.set g i (.string u) rfl)
          have hfr := HO3.out.free i
          have hci : ∃ old, w3.cell? ⟨g, i, none⟩ = some old := by
            obtain ⟨y, hy⟩ : ∃ y, ys[i]? = some y := ⟨ys[i]'(by have := HK.out.len; have := HN.out; omega), List.getElem?_eq_getElem _⟩
            exact ⟨_, HO3.out.rd.nam hy⟩
          obtain ⟨old, hold⟩ := hci
          clear HK HX HV HO3 HU3
          go_wp2_with fail
          go_roundg (n - (j + 1))
          case measure => omega
          case rel => exact ⟨i + 1, j + 1, ys.set i u, by go_num, by go_num, by omega, by omega, Nat.le_refl _, HK3, HO4, HU4⟩
      · obtain rfl : j = n := by omega
        have hd1 : ¬ (j : Int) < (j : Int) := by omega
        have hD := HK.out.done (by have := HN.out; omega) (by have := HN.out; omega)
        have hys : ys.length = j := by rw [HK.out.len, HN.out]
        obtain ⟨w5, vs', r5, o5, e5, l5, u5⟩ := clear_names HO.out (by rw [List.length_map, hys]) i hij (fun v hv => by obtain ⟨s, -, rfl⟩ := List.mem_map.1 hv; exact ⟨s, rfl⟩) 0
        have HS1 := sl_lN wr (some ⟨g, 0, none⟩) j cap i (by omega) hc
        rw [if_neg (by omega), Option.map_some, show (⟨g, 0, none⟩ : Addr).add i = ⟨g, i, none⟩ by rw [add_at, Nat.zero_add]] at HS1
        have HS2 := sl_hN w5 (some ⟨g, 0, none⟩) j cap i (by omega)
        have HF : Hid (RdV w5 (.slice (some ⟨g, 0, none⟩) i cap) ((xs.filter (fun x => !p x)).map Value.string) ∧ UpdF (fun j => j = g) w w5) := Lib.hid (by
          refine ⟨?_, HU.out.trans u5⟩
          have := rdV_take o5.rd i (by omega)
          rwa [e5, ← List.map_take, hD.1] at this)
        clear hD hys o5 e5 l5 u5 HK HO HU
        go_wp2_with fail
        go_ret
        exact ⟨i, rfl, HF.out.1, HF.out.2⟩
  · have HF : Hid (RdV w2 (.slice (some ⟨g, 0, none⟩) n cap) ((xs.filter (fun x => !p x)).map Value.string)) := Lib.hid (by
      rw [List.filter_eq_self.2 (fun x hx => by rw [hall x hx]; rfl)]
      exact HO2.out.rd)
    clear hall HO2
    go_wp2_with fail
    go_ret
    exact ⟨n, rfl, HF.out, HB2.out⟩
end Go.Proofs.YtmmkgopnccfiiaaGreatDoor
/- manifest: the names that are needed. -/
namespace Go.Proofs.YtmmkgopnccfiiaaGreatDoor
set_option linter.unusedVariables false
set_option maxRecDepth 100000
open Go.RowKit Go.Maps
theorem elem_nam : ElemOk Tryz.prog 33 9 16 (.string ⟨#[]⟩) := ⟨Tryz.underlying33, by kernel_rfl, rfl⟩
theorem one_nam (s : ByteArray) : ∀ u ∈ [Value.string s], u.oneCell' = true := by intro u hu; rw [List.mem_singleton.1 hu]; rfl
def tabT : ByteArray := ⟨#[46, 116, 97, 98]⟩
def tabN (f : Tbf) : ByteArray := numN f.num.toNat tabT
/-- The names that are needed. -/
def needN (num cu : Nat) (fs : List Tbf) : List ByteArray := curN :: manN num :: manN cu :: fs.map tabN
def NamesTo (w : World) (l : List ByteArray) (e : Ending) (w' : World) : Prop := ∃ v, e = .returned v ∧ OwnV 9 w.heap.size w' v (l.map Value.string) ∧ Below w.heap.size w w'
theorem own_len {B : Nat} {w : World} {v : Value} {vs : List Value} {n : Nat} (h : OwnV 9 B w v vs) (hn : vs.length = n) (h0 : 0 < n) : ∃ a cap, v = .slice a n cap := by
  rcases OwnV.nilOr h with ⟨-, rfl⟩ | ⟨g, c, e, -⟩
  · simp at hn; omega
  · rw [hn] at e; exact ⟨_, _, e⟩
theorem elem_namK : ElemK Tryz.prog 33 9 1 16 (.string ⟨#[]⟩) := ⟨elem_nam.1, elem_nam.2.1, rfl, by decide⟩
theorem rowF_len {B n : Nat} {w : World} {v : Value} {vs : List Value} (h : w.ownsRow B 9 1 v (n + 3 + 1) vs) (h0 : 0 < n + 1) : ∃ a cap, v = .slice a (n + 1 + 3) cap := by
  rcases h.2 with ⟨rfl, e⟩ | ⟨g, cap, cur, rfl, -⟩
  · omega
  · exact ⟨_, cap, by rw [show n + 1 + 3 = n + 3 + 1 by omega]⟩
/-- Tables stay when names grow. -/
theorem names_kept {B B' E E' k' n' : Nat} {w w' : World} {u v : Value} {vs ys us : List Value} (h : OwnV E B w v vs) (h' : w.ownsRow B' E' k' u n' ys) (hne : E ≠ E') (hg : (w.alloc (.cells us.toArray E)).grownBy w' v.ownBlock) : w'.ownsRow B' E' k' u n' ys := by
  have hal : Below w.heap.size w (w.alloc (.cells us.toArray E)) := (Below.refl _ w).alloc (Nat.le_refl _) _
  have h1 := row_same h' (w' := w.alloc (.cells us.toArray E)) fun g hg => hal.block g (row_lt h' g hg)
  have h2 := row_same h (w' := w.alloc (.cells us.toArray E)) fun g hg => hal.block g (row_lt h g hg)
  exact row_kept h1 hg (row_apart h2 h1 hne)
set_option maxHeartbeats 8000000 in
theorem needed_any {B : Nat} {w : World} {b mb : Nat} {ρ : Nat → Option Role} {S : Fs} {M : Man} {V : Ver} (h : ManAt B w b mb ρ S M V) (hG : GlobM w) (hn : M.num ≤ 9223372036854775807) (cu : Nat) (hcu : cu ≤ 9223372036854775807) (hr : S.read curN = (ptrB smN cu, 0)) (hk : unfK 8 (ptrB smN cu) = cu) :
    Calls Tryz.prog 31 #[.pointer (some ⟨mb, 0, none⟩)] w (NamesTo w (needN M.num cu V.fs)) := by
  have HM := Lib.hid (manName_any M.num hn w hG.2)
  have HM2 : Hid (∀ W, PowAt W → Calls Tryz.prog 38 #[.int .i64 (cu : Int)] W fun e w' => e = .returned (.string (manN cu)) ∧ Below W.heap.size W w') := Lib.hid fun W hW => manName_any cu hcu W hW
  have HC : Hid (∀ W, FsAt W b ρ S → GlobM W → Calls Tryz.prog 37 #[.pointer (some ⟨b, 0, none⟩)] W (NamRes W (cu : Int) 0)) := Lib.hid fun W h1 h2 => by
    have := named_any W b ρ S h1 _ hr h2.1 cu hk hcu
    rwa [if_pos rfl, if_pos rfl] at this
  obtain ⟨tv, n0, hb, hV, hro⟩ := h.blk
  have HK := Lib.hid hb
  have HV := Lib.hid hV
  have HF := Lib.hid h.fs
  have HG := Lib.hid hG
  have c0 := (man_cells hb).c0
  have c1 := (man_cells hb).c1
  have hfew := h.good.few
  have HNUM : Hid (∀ f ∈ V.fs, ∀ W, PowAt W → Calls Tryz.prog 65 #[.int .i64 f.num, .string ⟨#[46, 116, 97, 98]⟩] W fun e w' => e = .returned (.string (tabN f)) ∧ Below W.heap.size W w') := Lib.hid fun f hf W hW => by
    have h1 := h.good.below f hf
    have h2 := h.good.nx2
    have h3 := h.good.right f hf
    have h4 : 0 ≤ f.num := by unfold badTb badTab at h3; omega
    have := numbered_any f.num.toNat (by omega) tabT (by decide) W hW
    rwa [Int.toNat_of_nonneg h4] at this
  clear hb hV hro h hG hr hk
  unfold needN
  generalize hfs : V.fs = fs at *
  obtain ⟨N, hN⟩ : ∃ N, fs.length = N := ⟨_, rfl⟩
  have HNL := Lib.hid hN
  rw [hN] at hfew
  clear hN
  generalize manN M.num = T1 at *
  generalize manN cu = T2 at *
  go_enter Tryz.func31, Tryz.ntmps31
  go_wp2_with fail
  refine HM.out.mono ?_
  rintro e w1 ⟨rfl, hb1⟩
  have hal : Below w1.heap.size w1 (w1.alloc (.cells #[.string ⟨#[67, 85, 82, 82, 69, 78, 84]⟩, .string T1] 9)) := (Below.refl _ _).alloc (Nat.le_refl _) _
  have HB1 := Lib.hid (hb1.trans (hal.mono hb1.size))
  have HO1 := Lib.hid (own_fresh (E := 9) w1 [.string ⟨#[67, 85, 82, 82, 69, 78, 84]⟩, .string T1] 2 rfl (by decide) (by simp [maxLen]))
  have HC1 := Lib.hid (HC.out _ (HF.out.below HB1.out) (HG.out.below HB1.out))
  have d0 := (man_cells (HK.out.below HB1.out)).c0
  have HZ := Lib.hid hb1.size
  clear c0 c1 hb1 hal HM HC
  go_wp2_with fail
  refine HC1.out.mono ?_
  rintro e w3 ⟨rfl, hb3⟩
  have HB3 := Lib.hid (HB1.out.trans (hb3.mono HB1.out.size))
  have HZ3 : Hid (w1.heap.size ≤ w3.heap.size) := Lib.hid (Nat.le_trans (by simp) hb3.size)
  have HO3 := Lib.hid (HO1.out.below hb3)
  have HM3 := Lib.hid (HM2.out w3 (HG.out.below HB3.out).2)
  clear d0 hb3 HC1 HM2 HO1 HB1
  go_wp2_with fail
  refine HM3.out.mono ?_
  rintro e w4 ⟨rfl, hb4⟩
  have HB4 := Lib.hid (HB3.out.trans (hb4.mono HB3.out.size))
  have HZ4 : Hid (w1.heap.size ≤ w4.heap.size) := Lib.hid (Nat.le_trans HZ3.out hb4.size)
  have HO4 := Lib.hid (HO3.out.below hb4)
  clear hb4 HM3 HO3 HB3
  go_wp2_with (at_builtin; refine wp_appH elem_nam _ _ (by rfl) (by rfl) (by rfl) HO4.out [_] 1 _ rfl (by rfl) (by rfl) (by decide) ?c1 ?c2 ?c3 ?c4 ?_)
  case c1 => exact one_nam _
  case c2 => simp
  case c3 => simp [maxLen]
  case c4 => exact HZ4.out
  intro v5 w5 ho5 hb5
  obtain ⟨a5, cap5, rfl⟩ := own_len ho5 (n := 3) rfl (by decide)
  have HB5 := Lib.hid (HB4.out.trans (hb5.mono HZ.out))
  have HO5 := Lib.hid (ho5.base HZ.out)
  have HA5 := Lib.hid (vall_off (man_cells (HK.out.below HB5.out)).c3 (HV.out.below HB5.out))
  rw [hfs] at HA5
  clear ho5 hb5 HO4 HB4
  go_wp2_with fail
  refine HA5.out.mono ?_
  rintro e w6 ⟨u, rfl, ho6, hb6⟩
  have HB6 := Lib.hid (HB5.out.trans (hb6.mono HB5.out.size))
  have HO6 := Lib.hid (HO5.out.below hb6)
  obtain ⟨au, capu, rfl, -⟩ := edFl_len (ho6.rd encTbf_len)
  have HFL := Lib.hid ho6
  rw [HNL.out] at HFL ⊢
  obtain ⟨Z, hZ⟩ : ∃ Z, w5.heap.size = Z := ⟨_, rfl⟩
  rw [hZ] at HFL
  clear hb6 ho6 HA5 HO5 HB5 hZ
  go_wp2_with fail
  go_loopg [3, 34] N (fun kk v vi wr => ∃ (i : Nat) (a : Option Addr) (cap : Nat), v = .slice a (i + 3) cap ∧ vi = .int .i64 (i : Int) ∧ i ≤ N ∧ N - i ≤ kk ∧ Hid (OwnV 9 w.heap.size wr (.slice a (i + 3) cap) ((curN :: T1 :: T2 :: (fs.take i).map tabN).map Value.string)) ∧ Hid (Below w.heap.size w wr) ∧ Hid (OwnK encTbf 5 35 Z wr (.slice au N capu) fs))
  case atStart => exact ⟨0, a5, cap5, rfl, rfl, by omega, by omega, HO6, HB6, HFL⟩
  case round =>
    clear HO6 HB6 HFL
    obtain ⟨q, a, cap, rfl, rfl, hq, hkk, HO, HB, HL⟩ := hrel
    by_cases h1 : q < N
    · have hd1 : (q : Int) < (N : Int) := by omega
      have hd0 : (0 : Int) ≤ (q : Int) := by omega
      obtain ⟨x, hx⟩ : ∃ x, fs[q]? = some x := ⟨fs[q]'(by have := HNL.out; omega), List.getElem?_eq_getElem _⟩
      obtain ⟨b6, off6, rfl, hblt, d0, d1, d2, d3, d4⟩ := (HL.out.rd encTbf_len).atTbf q x hx
      have HT : Hid ((curN :: T1 :: T2 :: (fs.take (q + 1)).map tabN).map Value.string = (curN :: T1 :: T2 :: (fs.take q).map tabN).map Value.string ++ [.string (tabN x)]) := Lib.hid (by
        rw [List.take_add_one, hx]; simp)
      have HC := Lib.hid (HNUM.out x (List.mem_of_getElem? hx))
      have hl3 : ((curN :: T1 :: T2 :: (fs.take q).map tabN).map Value.string).length = q + 3 := by
        simp only [List.length_map, List.length_cons, List.length_take]; have := HNL.out; omega
      clear hx
      obtain ⟨x0, x1, x2, x3, x4⟩ := x
      simp only at d0 d1 d2 d3 d4 HC
      have hal : Below wr.heap.size wr (wr.alloc (.cells #[.int .i64 x0, .int .i64 x1, .int .i64 x2, .string x3, .string x4] 35)) := (Below.refl _ _).alloc (Nat.le_refl _) _
      have HB1 := Lib.hid (HB.out.trans (hal.mono HB.out.size))
      have HC1 := Lib.hid (HC.out _ (HG.out.below HB1.out).2)
      have HO1 := Lib.hid (HO.out.below hal)
      have HL1 := Lib.hid (HL.out.below hal)
      generalize (curN :: T1 :: T2 :: (fs.take q).map tabN).map Value.string = OLD at *
      generalize tabN ⟨x0, x1, x2, x3, x4⟩ = TN at *
      have HL3 := Lib.hid hl3
      clear hal HC HO HB HL hl3
      go_wp2_with fail
      refine HC1.out.mono ?_
      rintro e w7 ⟨rfl, hb7⟩
      have HB7 := Lib.hid (HB1.out.trans (hb7.mono HB1.out.size))
      have HO7 := Lib.hid (HO1.out.below hb7)
      have HL7 := Lib.hid (HL1.out.below hb7)
      clear hb7 HC1 HO1 HB1 HL1 d0 d1 d2 d3 d4
      go_wp2_with (at_builtin; refine wp_appX elem_namK _ _ (by rfl) (by rfl) (by rfl) HO7.out _ (by rfl) (by rfl) (us := [_]) (by rfl) ?c1 ?c2 (by decide) ?c3 ?_)
      case c1 => exact one_nam _
      case c2 => rw [HL3.out]; omega
      case c3 => exact HB7.out.size
      intro v8 w8 ho8 hb8 hg8 hn8
      rw [HL3.out] at ho8
      obtain ⟨a8, cap8, rfl⟩ := rowF_len ho8 (by omega)
      have HO8 : Hid (OwnV 9 w.heap.size w8 (.slice a8 (q + 1 + 3) cap8) ((curN :: T1 :: T2 :: (fs.take (q + 1)).map tabN).map Value.string)) := Lib.hid (by rw [HT.out]; unfold OwnV; rw [List.length_append, HL3.out, List.length_singleton, show q + 3 + 1 = q + 1 + 3 by omega]; exact ho8)
      have HB8 := Lib.hid (HB7.out.trans hb8)
      have HL8 : Hid (OwnK encTbf 5 35 Z w8 (.slice (some ⟨b6, off6, none⟩) N capu) fs) := Lib.hid (names_kept HO7.out HL7.out (by decide) hg8)
      clear ho8 hb8 hg8 HO7 HB7 HL7 HT
      go_wp2_with fail
      go_roundg (N - (q + 1))
      case measure => omega
      case rel => exact ⟨q + 1, a8, cap8, rfl, by go_num, by omega, Nat.le_refl _, HO8, HB8, HL8⟩
    · obtain rfl : q = N := by omega
      have hd1 : ¬ (q : Int) < (q : Int) := by omega
      have HE : Hid (fs.take q = fs) := Lib.hid (List.take_of_length_le (by have := HNL.out; omega))
      rw [HE.out] at HO
      go_wp2_with fail
      go_ret
      exact ⟨_, rfl, HO.out, HB.out⟩
end Go.Proofs.YtmmkgopnccfiiaaGreatDoor
/- manifest.Old: the names that are needed no more. -/
namespace Go.Proofs.YtmmkgopnccfiiaaGreatDoor
set_option linter.unusedVariables false
set_option maxRecDepth 100000
open Go.RowKit Go.Maps
/-- A name that is needed, or that of a log from the number least on. -/
def delP (need : List ByteArray) (least : Int) (x : ByteArray) : Bool := Lib.containsS need x || logFrom least x
theorem has_any {B n cap : Nat} {a : Option Addr} {w : World} {need : List ByteArray} (h : OwnV 9 B w (.slice a n cap) (need.map Value.string)) (h0 : 0 < need.length) (hl : need.length ≤ 1000000) (x : ByteArray) :
    Calls Tryz.prog 34 #[.slice a n cap, .string x] w fun e w' => e = .returned (.bool (Lib.containsS need x)) ∧ w' = w := by
  rcases h.rd with ⟨_, _, _, e⟩ | ⟨b, off, c, e, h1, h2, h3, h4, h5⟩
  · rw [List.map_eq_nil_iff] at e; subst e; simp at h0
  · rw [e, List.length_map]
    have hc : ∀ j, j < need.length → w.cell? ⟨b, off + j, none⟩ = some (.string (need.getD j ByteArray.empty)) := fun j hj => by
      rw [h5 j (by rw [List.length_map]; exact hj), List.getD_eq_getElem?_getD, List.getD_eq_getElem?_getD, List.getElem?_map, List.getElem?_eq_getElem hj]; rfl
    have h6 := Any.slices_Contains_string hasS b off need.length c need x w (Nat.le_refl _) (by omega) hc
    rw [List.take_length] at h6
    exact h6
/-- What Old$1 reads. -/
structure OldAt (w : World) (nb bb mb : Nat) (nv : Value) (need : List ByteArray) (lg : Int) : Prop where
  n : w.cell? ⟨nb, 0, none⟩ = some nv
  m : w.cell? ⟨bb, 0, none⟩ = some (.pointer (some ⟨mb, 0, none⟩))
  l : w.cell? ⟨mb, 5, none⟩ = some (.int .i64 lg)
  row : OwnV 9 0 w nv (need.map Value.string)
  pow : PowAt w
  err : ErrAt w
set_option maxHeartbeats 4000000 in
theorem oldF_any {w : World} {nb bb mb : Nat} {nv : Value} {need : List ByteArray} {lg : Int} (h : OldAt w nb bb mb nv need lg) (h0 : 0 < need.length) (hl : need.length ≤ 1000000) (g0 : 0 ≤ lg) (g1 : lg ≤ 9223372036854775807) (x : ByteArray)
    (hx : x ∉ need → x.size ≤ 1000000 ∧ Lib.parseIntB 64 (stemN x).data.toList ≠ .range) :
    Calls Tryz.prog 33 #[.string x, .pointer (some ⟨nb, 0, none⟩), .pointer (some ⟨bb, 0, none⟩)] w fun e w' => e = .returned (.bool (delP need lg x)) ∧ Below w.heap.size w w' := by
  unfold delP
  have cn := h.n
  have cm := h.m
  have cl := h.l
  obtain ⟨a, n, cap, rfl⟩ : ∃ a n cap, nv = .slice a n cap := by
    rcases h.row.rd with ⟨_, _, e, _⟩ | ⟨_, _, _, e, _⟩ <;> exact ⟨_, _, _, e⟩
  have HH := Lib.hid (has_any h.row h0 hl x)
  by_cases hm : x ∈ need
  · rw [(Lib.containsS_iff need x).2 hm] at HH ⊢
    rw [Bool.true_or]
    clear h hx hm h0 hl cm cl
    go_enter Tryz.func33, Tryz.ntmps33
    go_wp2_with fail
    refine HH.out.mono ?_
    rintro e w' ⟨rfl, rfl⟩
    clear HH
    go_wp2_with fail
    go_ret
    exact ⟨rfl, Below.refl _ _⟩
  · rw [show Lib.containsS need x = false from Bool.eq_false_iff.2 fun h => hm ((Lib.containsS_iff need x).1 h)] at HH ⊢
    rw [Bool.false_or]
    have HV := Lib.hid (vlog_off cl)
    have HL := Lib.hid (isLog_any lg g0 g1 x (hx hm).1 (hx hm).2 w h.pow h.err)
    generalize logFrom lg x = R at *
    clear h hx hm h0 hl cl
    go_enter Tryz.func33, Tryz.ntmps33
    go_wp2_with fail
    refine HH.out.mono ?_
    rintro e w' ⟨rfl, rfl⟩
    clear HH
    go_wp2_with fail
    refine HV.out.mono ?_
    rintro e w' ⟨rfl, rfl⟩
    clear HV
    go_wp2_with fail
    refine HL.out.mono ?_
    rintro e w2 ⟨rfl, hb⟩
    have HB := Lib.hid hb
    clear hb HL
    go_wp2_with fail
    go_ret
    exact ⟨rfl, HB.out⟩
end Go.Proofs.YtmmkgopnccfiiaaGreatDoor
/- manifest.Old: the names that are needed no more. -/
namespace Go.Proofs.YtmmkgopnccfiiaaGreatDoor
set_option linter.unusedVariables false
set_option maxRecDepth 100000
open Go.RowKit Go.Maps
def OldTo (w : World) (l : List ByteArray) (e : Ending) (w' : World) : Prop := ∃ v, e = .returned v ∧ RdV w' v (l.map Value.string) ∧ Below w.heap.size w w'
set_option maxHeartbeats 8000000 in
theorem old_any {B : Nat} {w : World} {b mb : Nat} {ρ : Nat → Option Role} {S : Fs} {M : Man} {V : Ver} (h : ManAt B w b mb ρ S M V) (hG : GlobM w) (hE : ErrAt w) (hn : M.num ≤ 9223372036854775807) (cu : Nat) (hcu : cu ≤ 9223372036854775807) (hr : S.read curN = (ptrB smN cu, 0)) (hk : unfK 8 (ptrB smN cu) = cu)
    (hS : ∀ x ∈ S.now.map (·.1), x ∉ needN M.num cu V.fs → x.size ≤ 1000000 ∧ Lib.parseIntB 64 (stemN x).data.toList ≠ .range) (hne : 0 < S.now.length) (hfew : S.now.length ≤ 1000000) :
    Calls Tryz.prog 11 #[.pointer (some ⟨mb, 0, none⟩)] w (OldTo w ((S.now.map (·.1)).filter fun x => !delP (needN M.num cu V.fs) V.lg x)) := by
  have b1 : Below w.heap.size w (w.alloc (.cells #[.pointer (some ⟨mb, 0, none⟩)] 26)) := (Below.refl _ w).alloc (Nat.le_refl _) _
  have HN := Lib.hid (needed_any (h.below b1) (⟨hG.1.below b1, hG.2.below b1⟩ : GlobM _) hn cu hcu hr hk)
  have HB1 := Lib.hid b1
  have HX := Lib.hid (BlkAt.new w #[.pointer (some ⟨mb, 0, none⟩)] 26)
  have HA := Lib.hid h
  have HG := Lib.hid hG
  have HE := Lib.hid hE
  have HS := Lib.hid hS
  have hnl : 0 < (needN M.num cu V.fs).length ∧ (needN M.num cu V.fs).length ≤ 1000000 := by
    have := h.good.few
    unfold needN; simp only [List.length_cons, List.length_map]; omega
  have hlg : 0 ≤ V.lg ∧ V.lg ≤ 9223372036854775807 := by have := h.good.lg0; have := h.good.lg1; have := h.good.nx2; omega
  clear h hG hE hr hk hS b1
  generalize needN M.num cu V.fs = need at *
  have xc := HX.out.at 0
  obtain ⟨g, hg⟩ : ∃ g, w.heap.size = g := ⟨_, rfl⟩
  unfold OldTo
  rw [hg] at xc HX
  go_enter Tryz.func11, Tryz.ntmps11
  go_wp2_with fail
  refine HN.out.mono ?_
  rintro e w2 ⟨nv, rfl, ho, hb⟩
  have HB2 := Lib.hid (HB1.out.trans (hb.mono HB1.out.size))
  have HX2 := Lib.hid (HX.out.below hb)
  have HO2 := Lib.hid (ho.base (Nat.zero_le _))
  obtain ⟨na, nn, nc, rfl⟩ : ∃ a n cap, nv = .slice a n cap := by
    rcases ho.rd with ⟨_, _, e, _⟩ | ⟨_, _, _, e, _⟩ <;> exact ⟨_, _, _, e⟩
  have hgl := HX2.out.lt
  clear ho hb HN xc hg HX
  generalize w.alloc (.cells #[.pointer (some ⟨mb, 0, none⟩)] 26) = w1 at *
  obtain ⟨g2, hg2⟩ : ∃ g, w2.heap.size = g := ⟨_, rfl⟩
  obtain ⟨w3, hw3⟩ : ∃ w3, (w2.alloc (.cells #[.slice none 0 0] 33)).setCell ⟨g2, 0, none⟩ (.slice na nn nc) = w3 := ⟨_, rfl⟩
  have b3 : Below w2.heap.size w2 w3 := by
    rw [← hw3, ← hg2]
    exact ((Below.refl _ w2).alloc (Nat.le_refl _) _).setCell (by simp) _
  have HX3 := Lib.hid (HX2.out.below b3)
  have hY3 : BlkAt w3 g2 #[.slice na nn nc] 33 := by
    rw [← hw3, ← hg2]
    exact (BlkAt.new w2 #[.slice none 0 0] 33).set (o := 0) (.slice na nn nc)
  have xc2 := HX2.out.at 0
  have xc3 := HX3.out.at 0
  have HB3 := Lib.hid (HB2.out.trans (b3.mono HB2.out.size))
  have HO3 := Lib.hid (HO2.out.below b3)
  have HY3 := Lib.hid hY3
  have fc := HA.out.fs
  obtain ⟨tv, n0, hmb, -⟩ := HA.out.blk
  have c0 := (man_cells (hmb.below HB3.out)).c0
  have HF := Lib.hid (fsnames_any w3 b ρ S (HA.out.fs.below HB3.out))
  have HMB := Lib.hid hmb
  clear hmb fc hY3 b3
  go_wp2_with fail
  refine HF.out.mono ?_
  rintro e w4 ⟨v, rfl, ho4, hb4⟩
  have ho4 : OwnV 9 w3.heap.size w4 v ((S.now.map (·.1)).map Value.string) := by rw [List.map_map]; exact ho4
  have HE4 := Lib.hid hb4
  generalize hxs : S.now.map (·.1) = xs at *
  have hxl : xs.length = S.now.length := by rw [← hxs, List.length_map]
  obtain ⟨gn, cn, rfl, hgn, hgl4, hc4⟩ : ∃ gn cap, v = .slice (some ⟨gn, 0, none⟩) xs.length cap ∧ w3.heap.size ≤ gn ∧ gn < w4.heap.size ∧ xs.length ≤ cap := by
    rcases ho4.nilOr with ⟨-, e⟩ | ⟨gn, cap, e, h1, h2, h3, -⟩
    · rw [List.map_eq_nil_iff] at e; subst e; simp at hxl; omega
    · rw [List.length_map] at e h3; exact ⟨gn, cap, e, h1, h2, h3⟩
  have HFR : Hid (∀ W, UpdF (fun j => j = gn) w4 W → Below w3.heap.size w3 W) := Lib.hid fun W hU => HE4.out.trans (hU.below HE4.out.size fun k hk e => by omega)
  have HD := Lib.hid (ndel_any (delP need V.lg) 33 (.pointer (some ⟨g2, 0, none⟩)) (.pointer (some ⟨g, 0, none⟩)) xs rfl (by omega) hc4 w4 ho4 (enters_of Tryz.func33 (by kernel_rfl) rfl) fun x hx W hU => by
    have hB := HFR.out W hU
    have hB0 := HB3.out.trans (hB.mono HB3.out.size)
    exact oldF_any ⟨(HY3.out.below hB).at 0, (HX3.out.below hB).at 0, (man_cells (HMB.out.below hB0)).c5, HO3.out.below hB, HG.out.2.below hB0, HE.out.below hB0⟩ hnl.1 hnl.2 hlg.1 hlg.2 x (HS.out x hx))
  have xc4 := (HX3.out.below hb4).at 0
  generalize xs.length = nx at *
  clear ho4 hb4 HF xc2 xc3 hw3 hg2 c0 hxl hc4
  go_wp2_with fail
  refine HD.out.mono ?_
  rintro e w5 ⟨k, rfl, hr5, hu5⟩
  have HR := Lib.hid (And.intro hr5 (HB3.out.trans ((HFR.out w5 hu5).mono HB3.out.size)))
  clear hr5 hu5 HD
  go_wp2_with fail
  go_ret
  refine ⟨_, rfl, ?_, HR.out.2⟩
  rw [hxs]
  exact HR.out.1
end Go.Proofs.YtmmkgopnccfiiaaGreatDoor
