/- The walk of the law on made moves: what is asked where the line is one. -/
import Derived.Test.YticdhapbkfbhjabWalkGr
namespace Go.Proofs.Yticdhapbkfbhjab
open Go.RowKit

set_option maxRecDepth 100000 in
set_option maxHeartbeats 8000000 in
theorem made_ok {s v O : ByteArray} {A1 A3 A5 : Option Addr} {cap1 cap3 cap5 nT nF : Nat} {way prs : Int} {b blk : Bool} {M T F : List (Int × Int)} {y2 y3 y4 y6 y9 y10 y12 y13 y14 y16 y17 y18 y20 y21 y22 y24 y25 y26 y28 y29 y30 y32 y33 y34 y35 y36 y37 y38 y39 y40 y41 y42 y43 y44 y45 y46 y47 y48 y49 y50 y51 y52 y53 y54 y55 y56 y57 y58 y59 y60 y61 y62 y63 y64 y65 y66 y67 y68 y69 y70 y71 y72 y73 y74 y75 y76 y77 y78 y79 y80 y81 y82 y83 y84 y85 y86 y87 y88 y89 y90 y91 y92 y93 y94 y95 y96 y97 y98 y99 y100 y101 y102 y103 y104 y105 y106 y107 y108 y109 y110 y111 y112 y113 y114 y115 y116 y117 y118 y119 y120 y121 y122 y123 y124 y125 y126 y127 y128 y129 y130 y131 y132 y133 y134 y135 y136 y137 y138 y139 y140 y141 y142 y143 y144 y145 y146 y147 y148 y149 y150 y151 y152 y153 y154 y155 y156 y157 y158 y159 y160 y161 y162 y163 y164 y165 y166 y167 y168 y169 y170 y171 y172 y173 y174 y175 y176 y177 y178 y179 y180 y181 y182 y183 y184 y185 y186 y187 y188 y189 y190 y191 y192 y193 y194 y195 y196 y197 y198 y199 y200 y201 y202 y203 y204 y205 y206 y207 y208 y209 y210 y211 y212 y213 y214 y215 y216 y217 y218 y219 y220 y221 y222 y223 y224 y225 y226 y227 y228 y229 y230 y231 y232 y233 y234 y235 y236 y237 y238 y239 y240 y241 y242 y243 y244 y245 y246 y247 y248 y249 y250 y251 y252 y253 y254 y255 y256 y257 y258 y259 y260 y261 y262 y263 y264 y265 y266 y267 y268 y269 y270 y271 y272 y273 y274 y275 y276 y277 y278 y279 y280 y281 y282 y283 y284 y285 y286 y287 y288 y289 y290 y291 y292 y293 y294 y295 y296 y297 y298 y299 y300 y301 y302 y303 y304 y305 y306 y307 y308 y309 y310 y311 y312 y313 y314 y315 y316 y317 y318 y319 y320 y321 y322 y323 y324 y325 y326 y327 y328 y329 y330 y331 y332 y333 y334 y335 y336 y337 y338 y339 y340 y341 y342 y343 y344 y345 y346 y347 y348 y349 y350 y351 y352 y353 y354 y355 y356 y357 y358 y359 y360 y361 y362 y363 y364 y365 y366 y367 y368 y369 y370 y371 y372 y373 y374 y375 y376 y377 y378 y379 y380 y381 y382 y383 y384 y385 y386 y387 y388 y389 y390 y391 y392 y393 y394 y395 y396 y397 y398 y399 y400 y401 y402 y403 y404 y405 y406 y407 y408 y409 y410 y411 y412 y413 y414 y415 y416 y417 y418 y419 y420 y421 y422 y423 y424 y425 y426 y427 y428 y429 y430 y431 y432 y433 y434 y435 y436 y437 y438 y439 y440 y441 y442 y443 y444 y445 y446 y447 y448 y449 y450 y451 y452 y453 y454 y455 y456 y457 y458 y459 y460 y461 y462 y463 y464 y465 y466 y467 y468 y469 y470 y471 y472 y473 y474 y475 y476 y477 y478 y479 y480 y481 y482 y483 y484 y485 y486 y487 y488 y489 y490 y491 y492 y493 y494 y495 y496 y497 y498 y499 y500 y501 y502 y503 y504 y505 y506 y507 y508 y509 y510 y511 y512 y513 y514 y515 y516 : Value} (f t : Int) (w wc : World) (hs : s.size ≤ maxLen) (hv : v.size ≤ maxLen) (hB : Below (w.heap.size + 1) (w.alloc (.cells #[.int .i64 f, .int .i64 t] 36)) wc)
    (hM : Hid (M.length = nT + nF)) (hT : Hid (T.length = nT)) (hF : Hid (F.length = nF)) (h24 : nT + nF ≤ 24) (AT1 : Hid (MvAt wc A1 M)) (AT3 : Hid (MvAt wc A3 T)) (AT5 : Hid (MvAt wc A5 F)) (hcase : MadeCase s O M T F nT nF way prs blk b) :
    Code.wp Try.prog (tlM (tlM (tlM (tlM (tlM (tlM (tlM (tlM (tlM (tlM (tlM (tlM (tlM (tlM (tlM (tlM (tlM ((Try.f6.body.getD .skip))))))))))))))))))) (bodyPost Try.prog Try.f6 fun e w' => e = .returned (.bool true) ∧ Below w.heap.size w w') { tmps := #[.string s, .string v, y2, y3, y4, .pointer (some ⟨w.heap.size, 0, none⟩), y6, .slice A1 (nT + nF) cap1, .bool b, y9, y10, .slice A3 nT cap3, y12, y13, y14, .slice A5 nF cap5, y16, y17, y18, .int .i64 way, y20, y21, y22, .int .i64 prs, y24, y25, y26, .bool blk, y28, y29, y30, .string O, y32, y33, y34, y35, y36, y37, y38, y39, y40, y41, y42, y43, y44, y45, y46, y47, y48, y49, y50, y51, y52, y53, y54, y55, y56, y57, y58, y59, y60, y61, y62, y63, y64, y65, y66, y67, y68, y69, y70, y71, y72, y73, y74, y75, y76, y77, y78, y79, y80, y81, y82, y83, y84, y85, y86, y87, y88, y89, y90, y91, y92, y93, y94, y95, y96, y97, y98, y99, y100, y101, y102, y103, y104, y105, y106, y107, y108, y109, y110, y111, y112, y113, y114, y115, y116, y117, y118, y119, y120, y121, y122, y123, y124, y125, y126, y127, y128, y129, y130, y131, y132, y133, y134, y135, y136, y137, y138, y139, y140, y141, y142, y143, y144, y145, y146, y147, y148, y149, y150, y151, y152, y153, y154, y155, y156, y157, y158, y159, y160, y161, y162, y163, y164, y165, y166, y167, y168, y169, y170, y171, y172, y173, y174, y175, y176, y177, y178, y179, y180, y181, y182, y183, y184, y185, y186, y187, y188, y189, y190, y191, y192, y193, y194, y195, y196, y197, y198, y199, y200, y201, y202, y203, y204, y205, y206, y207, y208, y209, y210, y211, y212, y213, y214, y215, y216, y217, y218, y219, y220, y221, y222, y223, y224, y225, y226, y227, y228, y229, y230, y231, y232, y233, y234, y235, y236, y237, y238, y239, y240, y241, y242, y243, y244, y245, y246, y247, y248, y249, y250, y251, y252, y253, y254, y255, y256, y257, y258, y259, y260, y261, y262, y263, y264, y265, y266, y267, y268, y269, y270, y271, y272, y273, y274, y275, y276, y277, y278, y279, y280, y281, y282, y283, y284, y285, y286, y287, y288, y289, y290, y291, y292, y293, y294, y295, y296, y297, y298, y299, y300, y301, y302, y303, y304, y305, y306, y307, y308, y309, y310, y311, y312, y313, y314, y315, y316, y317, y318, y319, y320, y321, y322, y323, y324, y325, y326, y327, y328, y329, y330, y331, y332, y333, y334, y335, y336, y337, y338, y339, y340, y341, y342, y343, y344, y345, y346, y347, y348, y349, y350, y351, y352, y353, y354, y355, y356, y357, y358, y359, y360, y361, y362, y363, y364, y365, y366, y367, y368, y369, y370, y371, y372, y373, y374, y375, y376, y377, y378, y379, y380, y381, y382, y383, y384, y385, y386, y387, y388, y389, y390, y391, y392, y393, y394, y395, y396, y397, y398, y399, y400, y401, y402, y403, y404, y405, y406, y407, y408, y409, y410, y411, y412, y413, y414, y415, y416, y417, y418, y419, y420, y421, y422, y423, y424, y425, y426, y427, y428, y429, y430, y431, y432, y433, y434, y435, y436, y437, y438, y439, y440, y441, y442, y443, y444, y445, y446, y447, y448, y449, y450, y451, y452, y453, y454, y455, y456, y457, y458, y459, y460, y461, y462, y463, y464, y465, y466, y467, y468, y469, y470, y471, y472, y473, y474, y475, y476, y477, y478, y479, y480, y481, y482, y483, y484, y485, y486, y487, y488, y489, y490, y491, y492, y493, y494, y495, y496, y497, y498, y499, y500, y501, y502, y503, y504, y505, y506, y507, y508, y509, y510, y511, y512, y513, y514, y515, y516], defers := [] } wc := by
  conv => arg 2; whnf
  go_upto_if 259 with fail
  rename_i KK hKK
  have HK := Lib.hid hKK
  clear hKK
  rcases hcase with rfl | ⟨rfl, hK⟩
  · go_wp2_with fail
    exact HK.out _ _ (made_end f t w _ hv hB)
  · have HKn := Lib.hid hK
    obtain ⟨o1, o2, o3, o4, osz⟩ := other_known hK
    rw [hM.out] at o2
    have hup := Lib.hid (rises_of hK)
    obtain ⟨_, _⟩ := hK.w0
    obtain ⟨_, _⟩ := hK.p0
    have hb1 : ((nT : Int) + (nF : Int) == 0) = blk := by
      rw [hK.eblk]
      rcases Nat.eq_zero_or_pos (nT + nF) with h | h
      · have e1 : ((nT : Int) + (nF : Int) == 0) = true := by rw [beq_iff_eq]; omega
        have e2 : (nT + nF == 0) = true := by rw [beq_iff_eq]; exact h
        rw [e1, e2]
      · have e1 : ((nT : Int) + (nF : Int) == 0) = false := by rw [beq_eq_false_iff_ne]; omega
        have e2 : (nT + nF == 0) = false := by rw [beq_eq_false_iff_ne]; omega
        rw [e1, e2]
    have hyo := fun wx (h : MvAt wx A1 M) => yOrder_up M A1 cap1 wx h (by rw [hM.out]; omega) hup.out
    rw [hM.out] at hyo
    have HYO := Lib.hid hyo
    clear hyo hK
    go_wp2_with fail
    refine (HYO.out _ AT1.out).mono ?_
    rintro e w1 ⟨rfl, hb⟩
    replace hB := hB.trans (hb.mono (box_size hB))
    replace AT1 := Lib.hid (AT1.out.below hb)
    replace AT3 := Lib.hid (AT3.out.below hb)
    replace AT5 := Lib.hid (AT5.out.below hb)
    clear hb HYO
    have gR := fun wx => movesOf_any O wx osz
    rw [o1.out] at gR
    generalize hMr : mvsOr (canM O) O = Mr at gR o2
    have HMr := Lib.hid hMr
    have GR := Lib.hid gR
    clear gR hMr
    go_wp2_with fail
    refine (GR.out _).mono ?_
    rintro e w2 ⟨v2, rfl, ho2, hb⟩
    obtain ⟨A6, cap6, rfl, at6⟩ := at_of_own ho2
    have AT6 := Lib.hid at6
    replace hB := hB.trans (hb.mono (box_size hB))
    replace AT1 := Lib.hid (AT1.out.below hb)
    replace AT3 := Lib.hid (AT3.out.below hb)
    replace AT5 := Lib.hid (AT5.out.below hb)
    clear hb ho2 at6
    rw [o2.out]
    go_wp2_with fail
    refine (otherLine_any O _ osz).mono ?_
    rintro e w3 ⟨rfl, hb⟩
    rw [o3.out]
    replace hB := hB.trans (hb.mono (box_size hB))
    replace AT1 := Lib.hid (AT1.out.below hb)
    replace AT3 := Lib.hid (AT3.out.below hb)
    replace AT5 := Lib.hid (AT5.out.below hb)
    replace AT6 := Lib.hid (AT6.out.below hb)
    clear hb
    go_wp2_with fail
    refine (way_any O _ osz).mono ?_
    rintro e wz ⟨rfl, rfl⟩
    rw [o4.out]
    go_wp2_with fail
    have s12 : s.size ≤ 12 := ((goodL_iff s).1 HKn.out.good).2.1
    go_loopw [332] (fun ii wr => ∃ k : Nat, k ≤ nT + nF ∧ ii = .int .i64 k ∧ Lists (w.heap.size + 1) 0 (w.alloc (.cells #[.int .i64 f, .int .i64 t] 36)) A1 A3 A5 A6 M T F Mr wr) (fun ii _ => nT + nF - (intOf ii).toNat)
    case atStart => exact ⟨0, Nat.zero_le _, rfl, AT1.out, AT3.out, AT5.out, AT6.out, by have := box_size hB; omega, hB, by simp⟩
    case round =>
      obtain ⟨k, hk, rfl, hLs⟩ := hrel
      clear AT1 AT3 AT5 AT6 hB
      have hBr := hLs.bel
      by_cases hlt : k < nT + nF
      · have hkM : k < M.length := by rw [hM.out]; exact hlt
        obtain ⟨nx, J, hr⟩ := round_known HKn.out k hkM
        rw [HMr.out] at hr
        obtain ⟨g, rfl, hg, c0, c1⟩ := hLs.l1 k hkM
        generalize M[k].1 = a at c0 hr
        generalize M[k].2 = b at c1 hr
        obtain ⟨r1, r2, r3, r4, r5, r6, r7, r8, rsz, ⟨a0, a1⟩, ⟨b0, b1⟩⟩ := hr
        have i1 : (0 : Int) ≤ (k : Int) := by omega
        have i2 : (k : Int) < (nT : Int) + (nF : Int) := by omega
        have hwz : w.heap.size + 1 ≤ wr.heap.size := box_size hBr
        have hH0 : HeldM (w.heap.size + 1) wr.heap.size (w.alloc (.cells #[.int .i64 f, .int .i64 t] 36)) (some ⟨g, 0, none⟩) A3 A5 A6 M T F Mr (.int .i64 a) (.int .i64 b) (wr.alloc (mvB a b)) := by
          have hba : Below wr.heap.size wr (wr.alloc (mvB a b)) := (Below.refl _ wr).alloc (Nat.le_refl _) _
          have hl2 := hLs.below hba
          exact ⟨by rw [World.cell?_alloc_new]; rfl, by rw [World.cell?_alloc_new]; rfl, hl2.l1, hl2.l3, hl2.l5, hl2.l6, by simp, hl2.bel, hl2.le⟩
        have HH := Lib.hid hH0
        clear hH0 hLs hBr
        cases J
        · have r4 : Hid (intOr (goodL nx) (wayL (byt nx)) = Value.tuple #[.int .i64 (way - 1), .bool true]) := r4
          have r5 : Hid (intOr (goodL nx) (pairSt (byt nx)).1 = Value.tuple #[.int .i64 prs, .bool true]) := by
            show _ = _
            have h : intOr (goodL nx) (pairSt (byt nx)).1 = Value.tuple #[.int .i64 (prs - 0), .bool true] := r5
            rw [h, Int.sub_zero]
          go_wp2_with fail
          refine (canMove_any s a b _ hs).mono ?_
          rintro e w4 ⟨rfl, hb⟩
          rw [r1.out]
          replace HH := Lib.hid (held_next hb HH.out)
          have d0 := HH.out.1
          have d1 := HH.out.2.1
          clear hb c0 c1
          go_wp2_with fail
          refine (makeMove_any s a b _ hs).mono ?_
          rintro e w5 ⟨rfl, hb⟩
          rw [r2.out]
          replace HH := Lib.hid (held_next hb HH.out)
          replace d0 := HH.out.1
          replace d1 := HH.out.2.1
          clear hb
          go_wp2_with fail
          refine (iIsJump_any s a b _ hs).mono ?_
          rintro e w6 ⟨rfl, hb⟩
          rw [r3.out]
          replace HH := Lib.hid (held_next hb HH.out)
          replace d0 := HH.out.1
          replace d1 := HH.out.2.1
          clear hb
          go_wp2_with fail
          refine (way_any nx _ rsz).mono ?_
          rintro e wz ⟨rfl, rfl⟩
          rw [r4.out]
          go_wp2_with fail
          refine (pairs_any nx _ rsz).mono ?_
          rintro e wz ⟨rfl, rfl⟩
          rw [r5.out]
          go_wp2_with fail
          refine made_test (cw := 1) (cp := 0) _ s12 h24 hT hF o2 r6 r7 r8 ⟨a0, a1⟩ ⟨b0, b1⟩ ⟨by omega, by omega⟩ ⟨by omega, by omega⟩ ⟨by omega, by omega⟩ (by rw [Int.sub_zero]; exact IntWalk.i64_in _ (by omega)) HH (Lib.hid ?_)
          intro w' hL
          have hL0 : Lists (w.heap.size + 1) 0 (w.alloc (.cells #[.int .i64 f, .int .i64 t] 36)) (some ⟨g, 0, none⟩) A3 A5 A6 M T F Mr w' := ⟨hL.l1, hL.l3, hL.l5, hL.l6, by have := hL.lt; omega, hL.bel, hL.le⟩
          clear HH d0 d1 hL
          go_wp2
          go_roundw
          case rel => exact ⟨k + 1, by omega, by go_num, hL0⟩
          case measure => simp [intOf]; omega
        · have r4 : Hid (intOr (goodL nx) (wayL (byt nx)) = Value.tuple #[.int .i64 (way - 2), .bool true]) := r4
          have r5 : Hid (intOr (goodL nx) (pairSt (byt nx)).1 = Value.tuple #[.int .i64 (prs - 1), .bool true]) := r5
          go_wp2_with fail
          refine (canMove_any s a b _ hs).mono ?_
          rintro e w4 ⟨rfl, hb⟩
          rw [r1.out]
          replace HH := Lib.hid (held_next hb HH.out)
          have d0 := HH.out.1
          have d1 := HH.out.2.1
          clear hb c0 c1
          go_wp2_with fail
          refine (makeMove_any s a b _ hs).mono ?_
          rintro e w5 ⟨rfl, hb⟩
          rw [r2.out]
          replace HH := Lib.hid (held_next hb HH.out)
          replace d0 := HH.out.1
          replace d1 := HH.out.2.1
          clear hb
          go_wp2_with fail
          refine (iIsJump_any s a b _ hs).mono ?_
          rintro e w6 ⟨rfl, hb⟩
          rw [r3.out]
          replace HH := Lib.hid (held_next hb HH.out)
          replace d0 := HH.out.1
          replace d1 := HH.out.2.1
          clear hb
          go_wp2_with fail
          refine (way_any nx _ rsz).mono ?_
          rintro e wz ⟨rfl, rfl⟩
          rw [r4.out]
          go_wp2_with fail
          refine (pairs_any nx _ rsz).mono ?_
          rintro e wz ⟨rfl, rfl⟩
          rw [r5.out]
          go_wp2_with fail
          refine made_test (cw := 2) (cp := 1) _ s12 h24 hT hF o2 r6 r7 r8 ⟨a0, a1⟩ ⟨b0, b1⟩ ⟨by omega, by omega⟩ ⟨by omega, by omega⟩ ⟨by omega, by omega⟩ (IntWalk.i64_in _ (by omega)) HH (Lib.hid ?_)
          intro w' hL
          have hL0 : Lists (w.heap.size + 1) 0 (w.alloc (.cells #[.int .i64 f, .int .i64 t] 36)) (some ⟨g, 0, none⟩) A3 A5 A6 M T F Mr w' := ⟨hL.l1, hL.l3, hL.l5, hL.l6, by have := hL.lt; omega, hL.bel, hL.le⟩
          clear HH d0 d1 hL
          go_wp2
          go_roundw
          case rel => exact ⟨k + 1, by omega, by go_num, hL0⟩
          case measure => simp [intOf]; omega
      · obtain rfl : k = nT + nF := by omega
        have hBz := hBr
        clear hLs
        go_wp2_with fail
        exact HK.out _ _ (made_end f t w _ hv hBz)
end Go.Proofs.Yticdhapbkfbhjab
