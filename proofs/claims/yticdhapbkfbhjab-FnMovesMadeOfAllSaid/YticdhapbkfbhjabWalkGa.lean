/- The walk of the law on made moves: its end. -/
import Derived.Test.YticdhapbkfbhjabMadeC
import Derived.Test.YticdhapbkfbhjabEqO
import Derived.Test.YticdhapbkfbhjabWalkM
namespace Go.Proofs.Yticdhapbkfbhjab
open Go.RowKit

/-- What follows a code's first statement. -/
def tlM : Code → Code
  | .seq _ b => b
  | c => c
theorem made_open (v : ByteArray) (f t : Int) : ∃ (x : ByteArray) (b1 c2 b2 c3 b3 : Bool), Hid (strOr (goodL v && canM v f t) (behind v f t) = .tuple #[.string x, .bool b1]) ∧ Hid (boolOr (goodL v) (canM v f t) = .tuple #[.bool c2, .bool b2]) ∧ Hid (boolOr (goodL v && canM v f t) (jumpM f t) = .tuple #[.bool c3, .bool b3]) ∧
    ((b1 = false ∧ b2 = false ∧ c2 = false ∧ b3 = false) ∨ (b1 = false ∧ b2 = true ∧ c2 = false ∧ b3 = false) ∨ (b1 = true ∧ b2 = true ∧ c2 = true ∧ b3 = true)) := by
  cases goodL v
  · exact ⟨str [], false, false, false, false, false, by show _ = _; rfl, by show _ = _; rfl, by show _ = _; rfl, .inl ⟨rfl, rfl, rfl, rfl⟩⟩
  · cases canM v f t
    · exact ⟨str [], false, false, true, false, false, by show _ = _; rfl, by show _ = _; rfl, by show _ = _; rfl, .inr (.inl ⟨rfl, rfl, rfl, rfl⟩)⟩
    · exact ⟨_, true, true, true, _, true, by show _ = _; rfl, by show _ = _; rfl, by show _ = _; rfl, .inr (.inr ⟨rfl, rfl, rfl, rfl⟩)⟩
theorem kept2 {W W' : World} {B : Nat} {x y : Value} (hb : Below W.heap.size W W') (hB : B < W.heap.size) (c0 : W.cell? ⟨B, 0, none⟩ = some x) (c1 : W.cell? ⟨B, 1, none⟩ = some y) :
    W'.cell? ⟨B, 0, none⟩ = some x ∧ W'.cell? ⟨B, 1, none⟩ = some y ∧ B < W'.heap.size :=
  ⟨(hb.cell (p := ⟨B, 0, none⟩) hB).trans c0, (hb.cell (p := ⟨B, 1, none⟩) hB).trans c1, Nat.lt_of_lt_of_le hB hb.size⟩

set_option maxRecDepth 100000 in
set_option maxHeartbeats 4000000 in
theorem made_end {v : ByteArray} {y0 y2 y3 y4 y6 y7 y8 y9 y10 y11 y12 y13 y14 y15 y16 y17 y18 y19 y20 y21 y22 y23 y24 y25 y26 y27 y28 y29 y30 y31 y32 y33 y34 y35 y36 y37 y38 y39 y40 y41 y42 y43 y44 y45 y46 y47 y48 y49 y50 y51 y52 y53 y54 y55 y56 y57 y58 y59 y60 y61 y62 y63 y64 y65 y66 y67 y68 y69 y70 y71 y72 y73 y74 y75 y76 y77 y78 y79 y80 y81 y82 y83 y84 y85 y86 y87 y88 y89 y90 y91 y92 y93 y94 y95 y96 y97 y98 y99 y100 y101 y102 y103 y104 y105 y106 y107 y108 y109 y110 y111 y112 y113 y114 y115 y116 y117 y118 y119 y120 y121 y122 y123 y124 y125 y126 y127 y128 y129 y130 y131 y132 y133 y134 y135 y136 y137 y138 y139 y140 y141 y142 y143 y144 y145 y146 y147 y148 y149 y150 y151 y152 y153 y154 y155 y156 y157 y158 y159 y160 y161 y162 y163 y164 y165 y166 y167 y168 y169 y170 y171 y172 y173 y174 y175 y176 y177 y178 y179 y180 y181 y182 y183 y184 y185 y186 y187 y188 y189 y190 y191 y192 y193 y194 y195 y196 y197 y198 y199 y200 y201 y202 y203 y204 y205 y206 y207 y208 y209 y210 y211 y212 y213 y214 y215 y216 y217 y218 y219 y220 y221 y222 y223 y224 y225 y226 y227 y228 y229 y230 y231 y232 y233 y234 y235 y236 y237 y238 y239 y240 y241 y242 y243 y244 y245 y246 y247 y248 y249 y250 y251 y252 y253 y254 y255 y256 y257 y258 y259 y260 y261 y262 y263 y264 y265 y266 y267 y268 y269 y270 y271 y272 y273 y274 y275 y276 y277 y278 y279 y280 y281 y282 y283 y284 y285 y286 y287 y288 y289 y290 y291 y292 y293 y294 y295 y296 y297 y298 y299 y300 y301 y302 y303 y304 y305 y306 y307 y308 y309 y310 y311 y312 y313 y314 y315 y316 y317 y318 y319 y320 y321 y322 y323 y324 y325 y326 y327 y328 y329 y330 y331 y332 y333 y334 y335 y336 y337 y338 y339 y340 y341 y342 y343 y344 y345 y346 y347 y348 y349 y350 y351 y352 y353 y354 y355 y356 y357 y358 y359 y360 y361 y362 y363 y364 y365 y366 y367 y368 y369 y370 y371 y372 y373 y374 y375 y376 y377 y378 y379 y380 y381 y382 y383 y384 y385 y386 y387 y388 y389 y390 y391 y392 y393 y394 y395 y396 y397 y398 y399 y400 y401 y402 y403 y404 y405 y406 y407 y408 y409 y410 y411 y412 y413 y414 y415 y416 y417 y418 y419 y420 y421 y422 y423 y424 y425 y426 y427 y428 y429 y430 y431 y432 y433 y434 y435 y436 y437 y438 y439 y440 y441 y442 y443 y444 y445 y446 y447 y448 y449 y450 y451 y452 y453 y454 y455 y456 y457 y458 y459 y460 y461 y462 y463 y464 y465 y466 y467 y468 y469 y470 y471 y472 y473 y474 y475 y476 y477 y478 y479 y480 y481 y482 y483 y484 y485 y486 y487 y488 y489 y490 y491 y492 y493 y494 y495 y496 y497 y498 y499 y500 y501 y502 y503 y504 y505 y506 y507 y508 y509 y510 y511 y512 y513 y514 y515 y516 : Value} (f t : Int) (w wc : World) (hv : v.size ≤ maxLen) (hB : Below (w.heap.size + 1) (w.alloc (.cells #[.int .i64 f, .int .i64 t] 36)) wc) :
    Code.wp Try.prog (tlM (tlM (tlM (tlM (tlM (tlM (tlM (tlM (tlM (tlM (tlM (tlM (tlM (tlM (tlM (tlM (tlM (tlM ((Try.f6.body.getD .skip)))))))))))))))))))) (bodyPost Try.prog Try.f6 fun e w' => e = .returned (.bool true) ∧ Below w.heap.size w w') { tmps := #[y0, .string v, y2, y3, y4, .pointer (some ⟨w.heap.size, 0, none⟩), y6, y7, y8, y9, y10, y11, y12, y13, y14, y15, y16, y17, y18, y19, y20, y21, y22, y23, y24, y25, y26, y27, y28, y29, y30, y31, y32, y33, y34, y35, y36, y37, y38, y39, y40, y41, y42, y43, y44, y45, y46, y47, y48, y49, y50, y51, y52, y53, y54, y55, y56, y57, y58, y59, y60, y61, y62, y63, y64, y65, y66, y67, y68, y69, y70, y71, y72, y73, y74, y75, y76, y77, y78, y79, y80, y81, y82, y83, y84, y85, y86, y87, y88, y89, y90, y91, y92, y93, y94, y95, y96, y97, y98, y99, y100, y101, y102, y103, y104, y105, y106, y107, y108, y109, y110, y111, y112, y113, y114, y115, y116, y117, y118, y119, y120, y121, y122, y123, y124, y125, y126, y127, y128, y129, y130, y131, y132, y133, y134, y135, y136, y137, y138, y139, y140, y141, y142, y143, y144, y145, y146, y147, y148, y149, y150, y151, y152, y153, y154, y155, y156, y157, y158, y159, y160, y161, y162, y163, y164, y165, y166, y167, y168, y169, y170, y171, y172, y173, y174, y175, y176, y177, y178, y179, y180, y181, y182, y183, y184, y185, y186, y187, y188, y189, y190, y191, y192, y193, y194, y195, y196, y197, y198, y199, y200, y201, y202, y203, y204, y205, y206, y207, y208, y209, y210, y211, y212, y213, y214, y215, y216, y217, y218, y219, y220, y221, y222, y223, y224, y225, y226, y227, y228, y229, y230, y231, y232, y233, y234, y235, y236, y237, y238, y239, y240, y241, y242, y243, y244, y245, y246, y247, y248, y249, y250, y251, y252, y253, y254, y255, y256, y257, y258, y259, y260, y261, y262, y263, y264, y265, y266, y267, y268, y269, y270, y271, y272, y273, y274, y275, y276, y277, y278, y279, y280, y281, y282, y283, y284, y285, y286, y287, y288, y289, y290, y291, y292, y293, y294, y295, y296, y297, y298, y299, y300, y301, y302, y303, y304, y305, y306, y307, y308, y309, y310, y311, y312, y313, y314, y315, y316, y317, y318, y319, y320, y321, y322, y323, y324, y325, y326, y327, y328, y329, y330, y331, y332, y333, y334, y335, y336, y337, y338, y339, y340, y341, y342, y343, y344, y345, y346, y347, y348, y349, y350, y351, y352, y353, y354, y355, y356, y357, y358, y359, y360, y361, y362, y363, y364, y365, y366, y367, y368, y369, y370, y371, y372, y373, y374, y375, y376, y377, y378, y379, y380, y381, y382, y383, y384, y385, y386, y387, y388, y389, y390, y391, y392, y393, y394, y395, y396, y397, y398, y399, y400, y401, y402, y403, y404, y405, y406, y407, y408, y409, y410, y411, y412, y413, y414, y415, y416, y417, y418, y419, y420, y421, y422, y423, y424, y425, y426, y427, y428, y429, y430, y431, y432, y433, y434, y435, y436, y437, y438, y439, y440, y441, y442, y443, y444, y445, y446, y447, y448, y449, y450, y451, y452, y453, y454, y455, y456, y457, y458, y459, y460, y461, y462, y463, y464, y465, y466, y467, y468, y469, y470, y471, y472, y473, y474, y475, y476, y477, y478, y479, y480, y481, y482, y483, y484, y485, y486, y487, y488, y489, y490, y491, y492, y493, y494, y495, y496, y497, y498, y499, y500, y501, y502, y503, y504, y505, y506, y507, y508, y509, y510, y511, y512, y513, y514, y515, y516], defers := [] } wc := by
  have hBw : Below w.heap.size w wc := ((Below.refl _ w).alloc (Nat.le_refl _) _).trans (hB.mono (Nat.le_succ _))
  have c0 : wc.cell? ⟨w.heap.size, 0, none⟩ = some (.int .i64 f) := (hB.cell (p := ⟨w.heap.size, 0, none⟩) (Nat.lt_succ_self _)).trans (by rw [World.cell?_alloc_new]; rfl)
  have c1 : wc.cell? ⟨w.heap.size, 1, none⟩ = some (.int .i64 t) := (hB.cell (p := ⟨w.heap.size, 1, none⟩) (Nat.lt_succ_self _)).trans (by rw [World.cell?_alloc_new]; rfl)
  have z0 : w.heap.size < wc.heap.size := by have := hB.size; simp at this; omega
  obtain ⟨x, b1, c2, b2, c3, b3, e1, e2, e3, hc⟩ := made_open v f t
  clear hB
  rcases hc with ⟨rfl, rfl, rfl, rfl⟩ | ⟨rfl, rfl, rfl, rfl⟩ | ⟨rfl, rfl, rfl, rfl⟩
  all_goals
    conv => arg 2; whnf

    go_wp2_with fail
    refine (makeMove_any v f t _ hv).mono ?_
    rintro e w1 ⟨rfl, hb⟩
    rw [e1.out]
    obtain ⟨c0, c1, z0⟩ := kept2 hb z0 c0 c1
    have hBw := hBw.trans (hb.mono hBw.size)
    clear hb
    go_wp2_with fail
    refine (sMakeMove_any v f t _ hv).mono ?_
    rintro e w2 ⟨rfl, hb⟩
    rw [e1.out]
    obtain ⟨c0, c1, z0⟩ := kept2 hb z0 c0 c1
    have hBw := hBw.trans (hb.mono hBw.size)
    clear hb
    go_wp2_with fail
    refine (canMove_any v f t _ hv).mono ?_
    rintro e w3 ⟨rfl, hb⟩
    rw [e2.out]
    obtain ⟨c0, c1, z0⟩ := kept2 hb z0 c0 c1
    have hBw := hBw.trans (hb.mono hBw.size)
    clear hb
    go_wp2_with fail
    refine (sCanMove_any v f t _ hv).mono ?_
    rintro e w4 ⟨rfl, hb⟩
    rw [e2.out]
    obtain ⟨c0, c1, z0⟩ := kept2 hb z0 c0 c1
    have hBw := hBw.trans (hb.mono hBw.size)
    clear hb
    go_wp2_with fail
    refine (iIsJump_any v f t _ hv).mono ?_
    rintro e w5 ⟨rfl, hb⟩
    rw [e3.out]
    obtain ⟨c0, c1, z0⟩ := kept2 hb z0 c0 c1
    have hBw := hBw.trans (hb.mono hBw.size)
    clear hb
    go_wp2_with fail
    refine (sIsJump_any v f t _ hv).mono ?_
    rintro e w6 ⟨rfl, hb⟩
    rw [e3.out]
    obtain ⟨c0, c1, z0⟩ := kept2 hb z0 c0 c1
    have hBw := hBw.trans (hb.mono hBw.size)
    clear hb
    go_wp2
    go_ret
    exact ⟨rfl, hBw⟩
end Go.Proofs.Yticdhapbkfbhjab
