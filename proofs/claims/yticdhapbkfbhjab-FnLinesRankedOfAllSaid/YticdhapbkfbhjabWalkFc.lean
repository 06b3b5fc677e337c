/- The walk of the law on ranked lines and plays, parts of its own: the answers on ranks and plays. -/
import Derived.Test.YticdhapbkfbhjabWalkFb
namespace Go.Proofs.Yticdhapbkfbhjab
open Go.RowKit

set_option maxRecDepth 100000 in
set_option maxHeartbeats 8000000 in
theorem ranked_asks {i j k r N : Int} {v en x fl : ByteArray} {b5 b7 b11 b13 : Bool} {A : Option Addr} {c : Nat} {q : Nat} {l : List (Int × Int)} {y0 y7 y8 y9 y10 y11 y12 y13 y14 y15 y16 y17 y18 y19 y20 y21 y22 y23 y24 y25 y26 y27 y28 y29 y30 y31 y32 y33 y34 y35 y36 y37 y38 y39 y40 y41 y42 y43 y44 y45 y46 y47 y48 y49 y50 y51 y52 y53 y54 y55 y56 y57 y58 y59 y60 y61 y62 y63 y64 y65 y66 y67 y68 y69 y70 y71 y72 y73 y74 y75 y76 y77 y78 y79 y80 y81 y82 y83 y84 y85 y86 y87 y88 y89 y90 y91 y92 y93 y94 y95 y96 y97 y98 y99 y100 y101 y102 y103 y104 y105 y106 y107 y108 y109 y110 y111 y112 y113 y114 y115 y116 y117 y118 y119 y120 y121 y122 y123 y124 y125 y126 y127 y128 y129 y130 y131 y132 y133 y134 y135 y136 y137 y138 y139 y140 y141 y142 y143 y144 y145 y146 y147 y148 y149 y150 y151 y152 y153 y154 y155 y156 y157 y158 y159 y160 y161 y162 y163 y164 y165 y166 y167 y168 y169 y170 y171 y172 y173 y174 y175 y176 y177 y178 y179 y180 y181 y182 y183 y184 y185 y186 y187 y188 y189 y190 y191 y192 y193 y194 y195 y196 y197 y198 y199 y200 y201 y202 y203 y204 y205 y206 y207 y208 y209 y210 y211 y212 y213 y214 y215 y216 y217 y218 y219 y220 y221 y222 y223 y224 y225 y226 y227 y228 y229 y230 y231 y232 y233 y234 y235 y236 y237 y238 y239 y240 y241 y242 y243 y244 y245 y246 y247 y248 y249 y250 y251 y252 y253 y254 y255 y256 y257 y258 y259 y260 y261 y262 y263 y264 y265 y266 y267 y268 y269 y270 y271 y272 y273 y274 y275 y276 y277 y278 y279 y280 y281 y282 y283 y284 y285 y286 y287 y288 y289 y290 y291 y292 y293 y294 y295 y296 y297 y298 y299 y300 y301 y302 y303 y304 y305 y306 y307 y308 y309 y310 y311 y312 y313 y314 y315 y316 y317 y318 y319 y320 y321 y322 y323 y324 y325 y326 y327 y328 y329 y330 y331 y332 y333 y334 y335 y336 y337 y338 y339 y340 y341 y342 y343 y344 y345 y346 y347 y348 y349 y350 y351 y352 y353 y354 y355 y356 y357 y358 y359 y360 y361 y362 y363 y364 y365 y366 y367 y368 y369 y370 y371 y372 y373 y374 y375 y376 y377 y378 y379 y380 y381 y382 y383 y384 y385 y386 y387 y388 y389 y390 y391 y392 y393 y394 y395 y396 y397 y398 y399 y400 y401 y402 y403 y404 y405 y406 y407 y408 y409 y410 y411 y412 y413 y414 y415 y416 y417 y418 y419 y420 y421 y422 y423 y424 y425 y426 y427 y428 y429 y430 y431 y432 y433 y434 y435 y436 y437 y438 y439 y440 y441 y442 y443 y444 y445 y446 y447 y448 y449 y450 y451 y452 y453 y454 y455 y456 y457 y458 y459 y460 y461 y462 y463 y464 y465 y466 y467 y468 y469 y470 y471 y472 y473 y474 y475 y476 y477 y478 y479 y480 y481 y482 y483 y484 y485 y486 y487 y488 y489 y490 y491 y492 y493 y494 y495 y496 y497 y498 y499 y500 y501 y502 y503 y504 y505 y506 y507 y508 : Value} (w wc : World) (hB0 : Below w.heap.size w wc) (hbig3 : (l.length : Int) ≤ 10000) (hv : v.size ≤ maxLen) (hcap : l.length ≤ c) (HI : Hid (MvIn w A l)) (hln : l.length ≤ 2000000)
    (c1 : Hid (strOr (three i j k && inR r 0 (manyI i j k - 1)) (unr (i + j + k).toNat i j k r) = .tuple #[.string x, .bool b5])) (c2 : Hid (strOr (three i j k) (firstL i.toNat j.toNat k.toNat) = .tuple #[.string fl, .bool b7])) (c3 : Hid (intOr (three i j k) (manyI i j k) = .tuple #[.int .i64 N, .bool b7]))
    (p1 : Hid (plVal v l = .tuple #[.string en, .bool b11])) (p2 : Hid (mfVal v l = .tuple #[.int .i64 q, .bool b13]))
    (hcaseP : PlayCase v l en q b11 b13) (hcase7 : Hid (b7 = false ∨ b7 = true ∧ Firsts fl i j k N))
    (hcase5 : Hid (b5 = false ∨ b5 = true ∧ x.size ≤ maxLen ∧ 0 ≤ r ∧ r < N ∧ Hid (intOr (goodL x) (rkAt x x.size) = .tuple #[.int .i64 r, .bool true]))) :
    Code.wp Try.prog (tl (tl (tl (tl (tl (tl (tl (tl (tl (tl ((Try.f7.body.getD .skip)))))))))))) (bodyPost Try.prog Try.f7 fun e w' => e = .returned (.bool true) ∧ Below w.heap.size w w') { tmps := #[y0, .int .i64 i, .int .i64 j, .int .i64 k, .int .i64 r, .string v, .slice A l.length c, y7, y8, y9, y10, y11, y12, y13, y14, y15, y16, y17, y18, y19, y20, y21, y22, y23, y24, y25, y26, y27, y28, y29, y30, y31, y32, y33, y34, y35, y36, y37, y38, y39, y40, y41, y42, y43, y44, y45, y46, y47, y48, y49, y50, y51, y52, y53, y54, y55, y56, y57, y58, y59, y60, y61, y62, y63, y64, y65, y66, y67, y68, y69, y70, y71, y72, y73, y74, y75, y76, y77, y78, y79, y80, y81, y82, y83, y84, y85, y86, y87, y88, y89, y90, y91, y92, y93, y94, y95, y96, y97, y98, y99, y100, y101, y102, y103, y104, y105, y106, y107, y108, y109, y110, y111, y112, y113, y114, y115, y116, y117, y118, y119, y120, y121, y122, y123, y124, y125, y126, y127, y128, y129, y130, y131, y132, y133, y134, y135, y136, y137, y138, y139, y140, y141, y142, y143, y144, y145, y146, y147, y148, y149, y150, y151, y152, y153, y154, y155, y156, y157, y158, y159, y160, y161, y162, y163, y164, y165, y166, y167, y168, y169, y170, y171, y172, y173, y174, y175, y176, y177, y178, y179, y180, y181, y182, y183, y184, y185, y186, y187, y188, y189, y190, y191, y192, y193, y194, y195, y196, y197, y198, y199, y200, y201, y202, y203, y204, y205, y206, y207, y208, y209, y210, y211, y212, y213, y214, y215, y216, y217, y218, y219, y220, y221, y222, y223, y224, y225, y226, y227, y228, y229, y230, y231, y232, y233, y234, y235, y236, y237, y238, y239, y240, y241, y242, y243, y244, y245, y246, y247, y248, y249, y250, y251, y252, y253, y254, y255, y256, y257, y258, y259, y260, y261, y262, y263, y264, y265, y266, y267, y268, y269, y270, y271, y272, y273, y274, y275, y276, y277, y278, y279, y280, y281, y282, y283, y284, y285, y286, y287, y288, y289, y290, y291, y292, y293, y294, y295, y296, y297, y298, y299, y300, y301, y302, y303, y304, y305, y306, y307, y308, y309, y310, y311, y312, y313, y314, y315, y316, y317, y318, y319, y320, y321, y322, y323, y324, y325, y326, y327, y328, y329, y330, y331, y332, y333, y334, y335, y336, y337, y338, y339, y340, y341, y342, y343, y344, y345, y346, y347, y348, y349, y350, y351, y352, y353, y354, y355, y356, y357, y358, y359, y360, y361, y362, y363, y364, y365, y366, y367, y368, y369, y370, y371, y372, y373, y374, y375, y376, y377, y378, y379, y380, y381, y382, y383, y384, y385, y386, y387, y388, y389, y390, y391, y392, y393, y394, y395, y396, y397, y398, y399, y400, y401, y402, y403, y404, y405, y406, y407, y408, y409, y410, y411, y412, y413, y414, y415, y416, y417, y418, y419, y420, y421, y422, y423, y424, y425, y426, y427, y428, y429, y430, y431, y432, y433, y434, y435, y436, y437, y438, y439, y440, y441, y442, y443, y444, y445, y446, y447, y448, y449, y450, y451, y452, y453, y454, y455, y456, y457, y458, y459, y460, y461, y462, y463, y464, y465, y466, y467, y468, y469, y470, y471, y472, y473, y474, y475, y476, y477, y478, y479, y480, y481, y482, y483, y484, y485, y486, y487, y488, y489, y490, y491, y492, y493, y494, y495, y496, y497, y498, y499, y500, y501, y502, y503, y504, y505, y506, y507, y508], defers := [] } wc := by
  have hb11 : Hid (b11 = false ∨ b11 = true ∧ b13 = false) := by
    rcases hcaseP with ⟨rfl, _⟩ | ⟨rfl, rfl, _⟩ | ⟨rfl, _, _⟩
    · exact .inl rfl
    · exact .inr ⟨rfl, rfl⟩
    · exact .inl rfl
  rcases hb11.out with rfl | ⟨rfl, rfl⟩
  all_goals
    clear hb11
    conv => arg 2; whnf
    go_wp2_with fail

    refine (unr_any _ _ _ _ _).mono ?_
    rintro e w1 ⟨rfl, hb1⟩
    rw [c1.out]
    have hB1 := hB0.trans (hb1.mono hB0.size)
    clear hb1 hB0
    go_wp2_with fail
    refine (sUnr_any _ _ _ _ _).mono ?_
    rintro e w2 ⟨rfl, hb2⟩
    rw [c1.out]
    have hB2 := hB1.trans (hb2.mono hB1.size)
    clear hb2 hB1
    go_wp2_with fail
    refine (firstLine_any _ _ _ _).mono ?_
    rintro e w3 ⟨rfl, hb3⟩
    rw [c2.out]
    have hB3 := hB2.trans (hb3.mono hB2.size)
    clear hb3 hB2
    go_wp2_with fail
    refine (sFirstLine_any _ _ _ _).mono ?_
    rintro e w4 ⟨rfl, hb4⟩
    rw [c2.out]
    have hB4 := hB3.trans (hb4.mono hB3.size)
    clear hb4 hB3
    go_wp2_with fail
    refine (countLines_any _ _ _ _).mono ?_
    rintro e w5 ⟨rfl, hb5⟩
    rw [c3.out]
    have hB5 := hB4.trans (hb5.mono hB4.size)
    clear hb5 hB4
    go_wp2_with fail
    refine (sCountLines_any _ _ _ _).mono ?_
    rintro e w6 ⟨rfl, hb6⟩
    rw [c3.out]
    have hB6 := hB5.trans (hb6.mono hB5.size)
    clear hb6 hB5
    go_wp2_with fail
    refine (playMovesN_any v l _ _ _ hv hln (HI.out.below hB6)).mono ?_
    rintro e w7 ⟨rfl, hb7⟩
    rw [p1.out]
    have hB7 := hB6.trans (hb7.mono hB6.size)
    clear hb7 hB6
    go_wp2_with fail
    refine (sPlayMoves_any v l _ _ _ hv hln (HI.out.below hB7)).mono ?_
    rintro e w8 ⟨rfl, hb8⟩
    rw [p1.out]
    have hB8 := hB7.trans (hb8.mono hB7.size)
    clear hb8 hB7
    go_wp2_with fail
    refine (moveFailsN_any v l _ _ _ hv hln (HI.out.below hB8)).mono ?_
    rintro e w9 ⟨rfl, hb9⟩
    rw [p2.out]
    have hB9 := hB8.trans (hb9.mono hB8.size)
    clear hb9 hB8
    go_wp2_with fail
    refine (sMoveFails_any v l _ _ _ hv hln (HI.out.below hB9)).mono ?_
    rintro e w10 ⟨rfl, hb10⟩
    rw [p2.out]
    have hB10 := hB9.trans (hb10.mono hB9.size)
    clear hb10 hB9
    go_upto_if 405 with fail
    rename_i KK hKK
    have HK := Lib.hid hKK
    clear hKK c1 c2 c3 p1 p2
    rcases hcase5.out with rfl | ⟨rfl, hx, _, _, hr⟩
    · clear hcase5
      go_wp2_with fail
      exact HK.out _ _ (ranked_first w _ hB10 hbig3 hv hcap HI hcaseP hcase7)
    · clear hcase5
      go_wp2_with fail
      refine (rank_any _ _ hx).mono ?_
      rintro e w12 ⟨rfl, hb12⟩
      rw [hr.out]
      have hB12 := hB10.trans (hb12.mono hB10.size)
      clear hb12 hB10
      go_wp2_with fail
      exact HK.out _ _ (ranked_first w _ hB12 hbig3 hv hcap HI hcaseP hcase7)
end Go.Proofs.Yticdhapbkfbhjab
