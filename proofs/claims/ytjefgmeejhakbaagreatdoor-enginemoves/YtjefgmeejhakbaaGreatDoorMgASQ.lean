/- KtStep KtLoopA: put together for a claim. -/
import Derived.Test.YtjefgmeejhakbaaGreatDoorMgARQ
import Derived.Test.YtjefgmeejhakbaaGreatDoorMgADQ
import Derived.Test.YtjefgmeejhakbaaGreatDoorKtLoopQ
import Derived.Test.YtjefgmeejhakbaaGreatDoorMgAOQ
/- keep's does: its step, and what its greater regions leave. -/
namespace Go.Proofs.YtjefgmeejhakbaaGreatDoor
open Go.RowKit
def actV (a : Int × Int × Int × Int) : Array Value := #[.int .i64 a.1, .int .i64 a.2.1, .int .i64 a.2.2.1, .int .i64 a.2.2.2]
def stepW (w : World) (b : Nat) (a : Int × Int × Int × Int) (s : Int) : World := (w.setCell ⟨b, 7, none⟩ (.int .i64 s)).alloc (.cells (actV a) 62)
theorem step_at {w0 : Gr} {w : World} {L : EnL} {E : Eng} {TL : TalL} {t : Tal} (h : TaleAt w0 w L E TL t) (a : Int × Int × Int × Int) : TaleAt w0 (stepW w TL.b a (t.steps + 1)) L E TL (stepT t) ∧ (stepW w TL.b a (t.steps + 1)).heap[w.heap.size]? = some (.cells (actV a) 62 (0, 0)) ∧ (stepW w TL.b a (t.steps + 1)).heap.size = w.heap.size + 1 := by
  have hset := setCell_at (o := 7) (v := .int .i64 (t.steps + 1)) h.tal.blk
  have hoth : ∀ g, g ≠ TL.b → (w.setCell ⟨TL.b, 7, none⟩ (.int .i64 (t.steps + 1))).heap[g]? = w.heap[g]? := fun g hg => heap_setCell_other _ _ _ _ hg
  have hsz : (w.setCell ⟨TL.b, 7, none⟩ (.int .i64 (t.steps + 1))).heap.size = w.heap.size := by simp
  have h1 : TaleAt w0 (w.setCell ⟨TL.b, 7, none⟩ (.int .i64 (t.steps + 1))) L E TL (stepT t) := by
    refine h.tale (t' := stepT t) ?_ ⟨rfl, rfl, rfl, by simp, fun g hg hn => hoth g (fun e => hn (.inl e)), fun g hg => .inl hg⟩
    refine h.tal.head (steps := t.steps + 1) (n := t.n) (broken := t.broken) ?_ (fun g _ hg => hoth g hg)
    exact hset.trans (by simp [talCells])
  refine ⟨h1.below ((Below.refl _ _).alloc (Nat.le_refl _) _), ?_, by simp [stepW]⟩
  have := heap_alloc_new (w.setCell ⟨TL.b, 7, none⟩ (.int .i64 (t.steps + 1))) (.cells (actV a) 62)
  rw [hsz] at this
  exact this
def p11 (TL : TalL) (N B : Nat) (lv : List Int) (level : Int) (av : Value) (i : Nat) (v : Value) (w : World) : Prop := match i with
  | 5 => v = .pointer (some ⟨TL.b, 1, none⟩)
  | 6 => v = TL.row 0
  | 7 => v = .int .i64 level
  | 8 => pB B 3 (.int .i64 level) v w
  | 9 => pA B 3 (TL.row 0) N (intsV lv) (.int .i64 level) v w
  | 12 => v = .pointer (some ⟨TL.b, 2, none⟩)
  | 13 => v = TL.row 1
  | 14 => v = av
  | 15 => pB B 23 av v w
  | 16 => pA B 23 (TL.row 1) N TL.sn av v w
  | 19 => v = .pointer (some ⟨TL.b, 3, none⟩)
  | 20 => v = TL.row 2
  | 21 => pM B v w
  | 22 => pMB B 69 v w
  | 23 => pMA B 69 (TL.row 2) N (TL.om.map mapV) v w
  | 25 => v = .pointer (some ⟨TL.b, 1, none⟩)
  | 28 => v = .pointer (some ⟨TL.b, 2, none⟩)
  | 31 => v = .pointer (some ⟨TL.b, 3, none⟩)
  | 26 => True
  | 29 => True
  | 32 => True
  | _ => v = .pointer (some ⟨TL.b, 0, none⟩)
theorem p11_stay {TL : TalL} {N B : Nat} {lv : List Int} {level : Int} {av : Value} {hh : Nat → Prop} {W W' : World} {i : Nat} (hc : Chg hh W W') (hB : ∀ g, hh g → g < B ∧ (i ≠ 9 → (TL.row 0).ownBlock ≠ some g) ∧ (i ≠ 16 → (TL.row 1).ownBlock ≠ some g) ∧ (i ≠ 23 → (TL.row 2).ownBlock ≠ some g)) (j : Nat) (u : Value) (hj : j ≠ i) (h : p11 TL N B lv level av j u W) : p11 TL N B lv level av j u W' := by
  unfold p11 at h ⊢
  split at h
  case h_4 => exact pB.stay h hc (fun g hg => (hB g hg).1)
  case h_5 => exact pA.stay h hc (fun g hg => ⟨(hB g hg).1, (hB g hg).2.1 (fun e => hj e.symm)⟩)
  case h_9 => exact pB.stay h hc (fun g hg => (hB g hg).1)
  case h_10 => exact pA.stay h hc (fun g hg => ⟨(hB g hg).1, (hB g hg).2.2.1 (fun e => hj e.symm)⟩)
  case h_13 => exact pM.stay h hc (fun g hg => (hB g hg).1)
  case h_14 => exact pMB.stay h hc (fun g hg => (hB g hg).1)
  case h_15 => exact pMA.stay h hc (fun g hg => ⟨(hB g hg).1, (hB g hg).2.2.2 (fun e => hj e.symm)⟩)
  all_goals first | exact h | (split <;> first | exact h | contradiction)
def p12 (TL : TalL) (rd : List Value) (N B : Nat) (bg ov : List Int) (st : Int) (i : Nat) (v : Value) (w : World) : Prop := match i with
  | 5 => v = .pointer (some ⟨TL.b, 4, none⟩)
  | 6 => v = TL.row 3
  | 7 => pB B 73 (.slice none 0 0) v w
  | 8 => pA B 73 (TL.row 3) N rd (.slice none 0 0) v w
  | 11 => v = .pointer (some ⟨TL.b, 5, none⟩)
  | 12 => v = TL.row 4
  | 15 => v = .pointer (some ⟨TL.b, 7, none⟩)
  | 16 => v = .int .i64 st
  | 17 => pB B 3 (.int .i64 st) v w
  | 18 => pA B 3 (TL.row 4) N (intsV bg) (.int .i64 st) v w
  | 21 => v = .pointer (some ⟨TL.b, 6, none⟩)
  | 22 => v = TL.row 5
  | 23 => pB B 3 (.int .i64 0) v w
  | 24 => pA B 3 (TL.row 5) N (intsV ov) (.int .i64 0) v w
  | 26 => v = .pointer (some ⟨TL.b, 4, none⟩)
  | 29 => v = .pointer (some ⟨TL.b, 5, none⟩)
  | 32 => v = .pointer (some ⟨TL.b, 6, none⟩)
  | 27 => True
  | 30 => True
  | 33 => True
  | _ => v = .pointer (some ⟨TL.b, 0, none⟩)
theorem p12_stay {TL : TalL} {rd : List Value} {N B : Nat} {bg ov : List Int} {st : Int} {hh : Nat → Prop} {W W' : World} {i : Nat} (hc : Chg hh W W') (hB : ∀ g, hh g → g < B ∧ (i ≠ 8 → (TL.row 3).ownBlock ≠ some g) ∧ (i ≠ 18 → (TL.row 4).ownBlock ≠ some g) ∧ (i ≠ 24 → (TL.row 5).ownBlock ≠ some g)) (j : Nat) (u : Value) (hj : j ≠ i) (h : p12 TL rd N B bg ov st j u W) : p12 TL rd N B bg ov st j u W' := by
  unfold p12 at h ⊢
  split at h
  case h_3 => exact pB.stay h hc (fun g hg => (hB g hg).1)
  case h_4 => exact pA.stay h hc (fun g hg => ⟨(hB g hg).1, (hB g hg).2.1 (fun e => hj e.symm)⟩)
  case h_9 => exact pB.stay h hc (fun g hg => (hB g hg).1)
  case h_10 => exact pA.stay h hc (fun g hg => ⟨(hB g hg).1, (hB g hg).2.2.1 (fun e => hj e.symm)⟩)
  case h_13 => exact pB.stay h hc (fun g hg => (hB g hg).1)
  case h_14 => exact pA.stay h hc (fun g hg => ⟨(hB g hg).1, (hB g hg).2.2.2 (fun e => hj e.symm)⟩)
  all_goals first | exact h | (split <;> first | exact h | contradiction)
def TwoNe (listed : Array Bool) (a : Act) : Prop := DoneAt listed 18 → DoneAt listed 24 → ∀ g, (a.tmps.getD 124 undef).ownBlock = some g → (a.tmps.getD 130 undef).ownBlock = some g → False
theorem gkeep {listed : Array Bool} {a : Act} {i d : Nat} {v : Value} (h : TwoNe listed a) (hi : i ≠ 18 ∧ i ≠ 24) (hd : d ≠ 124 ∧ d ≠ 130) : TwoNe (listed.setIfInBounds i true) (a.put (some d) v) := fun h1 h2 g hg1 hg2 => by
  rw [getD_put_ne hd.1.symm] at hg1
  rw [getD_put_ne hd.2.symm] at hg2
  exact h ((done_set_ne hi.1.symm).1 h1) ((done_set_ne hi.2.symm).1 h2) g hg1 hg2
theorem gkeepN {listed : Array Bool} {a : Act} {i : Nat} {v : Value} (h : TwoNe listed a) (hi : i ≠ 18 ∧ i ≠ 24) : TwoNe (listed.setIfInBounds i true) (a.put none v) := fun h1 h2 g hg1 hg2 => h ((done_set_ne hi.1.symm).1 h1) ((done_set_ne hi.2.symm).1 h2) g hg1 hg2
end Go.Proofs.YtjefgmeejhakbaaGreatDoor

/- keep's does: who is over now, over a frame of which little is known. -/
namespace Go.Proofs.YtjefgmeejhakbaaGreatDoor
open Go.RowKit
theorem arr_letters (a : Array Value) (n : Nat) (h : a.size = n) : a = ((List.range n).map (fun k => a.getD k undef)).toArray := by
  refine Array.ext (by simp [h]) (fun i h1 h2 => ?_)
  simp [Array.getD_eq_getD_getElem?, h1]
set_option maxRecDepth 1000000 in
set_option maxHeartbeats 4000000 in
theorem act_letters (a : Act) (h : a.tmps.size = 394) (hd : a.defers = []) : a = ⟨List.toArray (a.tmps.getD 0 undef :: a.tmps.getD 1 undef :: a.tmps.getD 2 undef :: a.tmps.getD 3 undef :: a.tmps.getD 4 undef :: a.tmps.getD 5 undef :: a.tmps.getD 6 undef :: a.tmps.getD 7 undef :: a.tmps.getD 8 undef :: a.tmps.getD 9 undef :: a.tmps.getD 10 undef :: a.tmps.getD 11 undef :: a.tmps.getD 12 undef :: a.tmps.getD 13 undef :: a.tmps.getD 14 undef :: a.tmps.getD 15 undef :: a.tmps.getD 16 undef :: a.tmps.getD 17 undef :: a.tmps.getD 18 undef :: a.tmps.getD 19 undef :: a.tmps.getD 20 undef :: a.tmps.getD 21 undef :: a.tmps.getD 22 undef :: a.tmps.getD 23 undef :: a.tmps.getD 24 undef :: a.tmps.getD 25 undef :: a.tmps.getD 26 undef :: a.tmps.getD 27 undef :: a.tmps.getD 28 undef :: a.tmps.getD 29 undef :: a.tmps.getD 30 undef :: a.tmps.getD 31 undef :: a.tmps.getD 32 undef :: a.tmps.getD 33 undef :: a.tmps.getD 34 undef :: a.tmps.getD 35 undef :: a.tmps.getD 36 undef :: a.tmps.getD 37 undef :: a.tmps.getD 38 undef :: a.tmps.getD 39 undef :: a.tmps.getD 40 undef :: a.tmps.getD 41 undef :: a.tmps.getD 42 undef :: a.tmps.getD 43 undef :: a.tmps.getD 44 undef :: a.tmps.getD 45 undef :: a.tmps.getD 46 undef :: a.tmps.getD 47 undef :: a.tmps.getD 48 undef :: a.tmps.getD 49 undef :: a.tmps.getD 50 undef :: a.tmps.getD 51 undef :: a.tmps.getD 52 undef :: a.tmps.getD 53 undef :: a.tmps.getD 54 undef :: a.tmps.getD 55 undef :: a.tmps.getD 56 undef :: a.tmps.getD 57 undef :: a.tmps.getD 58 undef :: a.tmps.getD 59 undef :: a.tmps.getD 60 undef :: a.tmps.getD 61 undef :: a.tmps.getD 62 undef :: a.tmps.getD 63 undef :: a.tmps.getD 64 undef :: a.tmps.getD 65 undef :: a.tmps.getD 66 undef :: a.tmps.getD 67 undef :: a.tmps.getD 68 undef :: a.tmps.getD 69 undef :: a.tmps.getD 70 undef :: a.tmps.getD 71 undef :: a.tmps.getD 72 undef :: a.tmps.getD 73 undef :: a.tmps.getD 74 undef :: a.tmps.getD 75 undef :: a.tmps.getD 76 undef :: a.tmps.getD 77 undef :: a.tmps.getD 78 undef :: a.tmps.getD 79 undef :: a.tmps.getD 80 undef :: a.tmps.getD 81 undef :: a.tmps.getD 82 undef :: a.tmps.getD 83 undef :: a.tmps.getD 84 undef :: a.tmps.getD 85 undef :: a.tmps.getD 86 undef :: a.tmps.getD 87 undef :: a.tmps.getD 88 undef :: a.tmps.getD 89 undef :: a.tmps.getD 90 undef :: a.tmps.getD 91 undef :: a.tmps.getD 92 undef :: a.tmps.getD 93 undef :: a.tmps.getD 94 undef :: a.tmps.getD 95 undef :: a.tmps.getD 96 undef :: a.tmps.getD 97 undef :: a.tmps.getD 98 undef :: a.tmps.getD 99 undef :: a.tmps.getD 100 undef :: a.tmps.getD 101 undef :: a.tmps.getD 102 undef :: a.tmps.getD 103 undef :: a.tmps.getD 104 undef :: a.tmps.getD 105 undef :: a.tmps.getD 106 undef :: a.tmps.getD 107 undef :: a.tmps.getD 108 undef :: a.tmps.getD 109 undef :: a.tmps.getD 110 undef :: a.tmps.getD 111 undef :: a.tmps.getD 112 undef :: a.tmps.getD 113 undef :: a.tmps.getD 114 undef :: a.tmps.getD 115 undef :: a.tmps.getD 116 undef :: a.tmps.getD 117 undef :: a.tmps.getD 118 undef :: a.tmps.getD 119 undef :: a.tmps.getD 120 undef :: a.tmps.getD 121 undef :: a.tmps.getD 122 undef :: a.tmps.getD 123 undef :: a.tmps.getD 124 undef :: a.tmps.getD 125 undef :: a.tmps.getD 126 undef :: a.tmps.getD 127 undef :: a.tmps.getD 128 undef :: a.tmps.getD 129 undef :: a.tmps.getD 130 undef :: a.tmps.getD 131 undef :: a.tmps.getD 132 undef :: a.tmps.getD 133 undef :: a.tmps.getD 134 undef :: a.tmps.getD 135 undef :: a.tmps.getD 136 undef :: a.tmps.getD 137 undef :: a.tmps.getD 138 undef :: a.tmps.getD 139 undef :: a.tmps.getD 140 undef :: a.tmps.getD 141 undef :: a.tmps.getD 142 undef :: a.tmps.getD 143 undef :: a.tmps.getD 144 undef :: a.tmps.getD 145 undef :: a.tmps.getD 146 undef :: a.tmps.getD 147 undef :: a.tmps.getD 148 undef :: a.tmps.getD 149 undef :: a.tmps.getD 150 undef :: a.tmps.getD 151 undef :: a.tmps.getD 152 undef :: a.tmps.getD 153 undef :: a.tmps.getD 154 undef :: a.tmps.getD 155 undef :: a.tmps.getD 156 undef :: a.tmps.getD 157 undef :: a.tmps.getD 158 undef :: a.tmps.getD 159 undef :: a.tmps.getD 160 undef :: a.tmps.getD 161 undef :: a.tmps.getD 162 undef :: a.tmps.getD 163 undef :: a.tmps.getD 164 undef :: a.tmps.getD 165 undef :: a.tmps.getD 166 undef :: a.tmps.getD 167 undef :: a.tmps.getD 168 undef :: a.tmps.getD 169 undef :: a.tmps.getD 170 undef :: a.tmps.getD 171 undef :: a.tmps.getD 172 undef :: a.tmps.getD 173 undef :: a.tmps.getD 174 undef :: a.tmps.getD 175 undef :: a.tmps.getD 176 undef :: a.tmps.getD 177 undef :: a.tmps.getD 178 undef :: a.tmps.getD 179 undef :: a.tmps.getD 180 undef :: a.tmps.getD 181 undef :: a.tmps.getD 182 undef :: a.tmps.getD 183 undef :: a.tmps.getD 184 undef :: a.tmps.getD 185 undef :: a.tmps.getD 186 undef :: a.tmps.getD 187 undef :: a.tmps.getD 188 undef :: a.tmps.getD 189 undef :: a.tmps.getD 190 undef :: a.tmps.getD 191 undef :: a.tmps.getD 192 undef :: a.tmps.getD 193 undef :: a.tmps.getD 194 undef :: a.tmps.getD 195 undef :: a.tmps.getD 196 undef :: a.tmps.getD 197 undef :: a.tmps.getD 198 undef :: a.tmps.getD 199 undef :: a.tmps.getD 200 undef :: a.tmps.getD 201 undef :: a.tmps.getD 202 undef :: a.tmps.getD 203 undef :: a.tmps.getD 204 undef :: a.tmps.getD 205 undef :: a.tmps.getD 206 undef :: a.tmps.getD 207 undef :: a.tmps.getD 208 undef :: a.tmps.getD 209 undef :: a.tmps.getD 210 undef :: a.tmps.getD 211 undef :: a.tmps.getD 212 undef :: a.tmps.getD 213 undef :: a.tmps.getD 214 undef :: a.tmps.getD 215 undef :: a.tmps.getD 216 undef :: a.tmps.getD 217 undef :: a.tmps.getD 218 undef :: a.tmps.getD 219 undef :: a.tmps.getD 220 undef :: a.tmps.getD 221 undef :: a.tmps.getD 222 undef :: a.tmps.getD 223 undef :: a.tmps.getD 224 undef :: a.tmps.getD 225 undef :: a.tmps.getD 226 undef :: a.tmps.getD 227 undef :: a.tmps.getD 228 undef :: a.tmps.getD 229 undef :: a.tmps.getD 230 undef :: a.tmps.getD 231 undef :: a.tmps.getD 232 undef :: a.tmps.getD 233 undef :: a.tmps.getD 234 undef :: a.tmps.getD 235 undef :: a.tmps.getD 236 undef :: a.tmps.getD 237 undef :: a.tmps.getD 238 undef :: a.tmps.getD 239 undef :: a.tmps.getD 240 undef :: a.tmps.getD 241 undef :: a.tmps.getD 242 undef :: a.tmps.getD 243 undef :: a.tmps.getD 244 undef :: a.tmps.getD 245 undef :: a.tmps.getD 246 undef :: a.tmps.getD 247 undef :: a.tmps.getD 248 undef :: a.tmps.getD 249 undef :: a.tmps.getD 250 undef :: a.tmps.getD 251 undef :: a.tmps.getD 252 undef :: a.tmps.getD 253 undef :: a.tmps.getD 254 undef :: a.tmps.getD 255 undef :: a.tmps.getD 256 undef :: a.tmps.getD 257 undef :: a.tmps.getD 258 undef :: a.tmps.getD 259 undef :: a.tmps.getD 260 undef :: a.tmps.getD 261 undef :: a.tmps.getD 262 undef :: a.tmps.getD 263 undef :: a.tmps.getD 264 undef :: a.tmps.getD 265 undef :: a.tmps.getD 266 undef :: a.tmps.getD 267 undef :: a.tmps.getD 268 undef :: a.tmps.getD 269 undef :: a.tmps.getD 270 undef :: a.tmps.getD 271 undef :: a.tmps.getD 272 undef :: a.tmps.getD 273 undef :: a.tmps.getD 274 undef :: a.tmps.getD 275 undef :: a.tmps.getD 276 undef :: a.tmps.getD 277 undef :: a.tmps.getD 278 undef :: a.tmps.getD 279 undef :: a.tmps.getD 280 undef :: a.tmps.getD 281 undef :: a.tmps.getD 282 undef :: a.tmps.getD 283 undef :: a.tmps.getD 284 undef :: a.tmps.getD 285 undef :: a.tmps.getD 286 undef :: a.tmps.getD 287 undef :: a.tmps.getD 288 undef :: a.tmps.getD 289 undef :: a.tmps.getD 290 undef :: a.tmps.getD 291 undef :: a.tmps.getD 292 undef :: a.tmps.getD 293 undef :: a.tmps.getD 294 undef :: a.tmps.getD 295 undef :: a.tmps.getD 296 undef :: a.tmps.getD 297 undef :: a.tmps.getD 298 undef :: a.tmps.getD 299 undef :: a.tmps.getD 300 undef :: a.tmps.getD 301 undef :: a.tmps.getD 302 undef :: a.tmps.getD 303 undef :: a.tmps.getD 304 undef :: a.tmps.getD 305 undef :: a.tmps.getD 306 undef :: a.tmps.getD 307 undef :: a.tmps.getD 308 undef :: a.tmps.getD 309 undef :: a.tmps.getD 310 undef :: a.tmps.getD 311 undef :: a.tmps.getD 312 undef :: a.tmps.getD 313 undef :: a.tmps.getD 314 undef :: a.tmps.getD 315 undef :: a.tmps.getD 316 undef :: a.tmps.getD 317 undef :: a.tmps.getD 318 undef :: a.tmps.getD 319 undef :: a.tmps.getD 320 undef :: a.tmps.getD 321 undef :: a.tmps.getD 322 undef :: a.tmps.getD 323 undef :: a.tmps.getD 324 undef :: a.tmps.getD 325 undef :: a.tmps.getD 326 undef :: a.tmps.getD 327 undef :: a.tmps.getD 328 undef :: a.tmps.getD 329 undef :: a.tmps.getD 330 undef :: a.tmps.getD 331 undef :: a.tmps.getD 332 undef :: a.tmps.getD 333 undef :: a.tmps.getD 334 undef :: a.tmps.getD 335 undef :: a.tmps.getD 336 undef :: a.tmps.getD 337 undef :: a.tmps.getD 338 undef :: a.tmps.getD 339 undef :: a.tmps.getD 340 undef :: a.tmps.getD 341 undef :: a.tmps.getD 342 undef :: a.tmps.getD 343 undef :: a.tmps.getD 344 undef :: a.tmps.getD 345 undef :: a.tmps.getD 346 undef :: a.tmps.getD 347 undef :: a.tmps.getD 348 undef :: a.tmps.getD 349 undef :: a.tmps.getD 350 undef :: a.tmps.getD 351 undef :: a.tmps.getD 352 undef :: a.tmps.getD 353 undef :: a.tmps.getD 354 undef :: a.tmps.getD 355 undef :: a.tmps.getD 356 undef :: a.tmps.getD 357 undef :: a.tmps.getD 358 undef :: a.tmps.getD 359 undef :: a.tmps.getD 360 undef :: a.tmps.getD 361 undef :: a.tmps.getD 362 undef :: a.tmps.getD 363 undef :: a.tmps.getD 364 undef :: a.tmps.getD 365 undef :: a.tmps.getD 366 undef :: a.tmps.getD 367 undef :: a.tmps.getD 368 undef :: a.tmps.getD 369 undef :: a.tmps.getD 370 undef :: a.tmps.getD 371 undef :: a.tmps.getD 372 undef :: a.tmps.getD 373 undef :: a.tmps.getD 374 undef :: a.tmps.getD 375 undef :: a.tmps.getD 376 undef :: a.tmps.getD 377 undef :: a.tmps.getD 378 undef :: a.tmps.getD 379 undef :: a.tmps.getD 380 undef :: a.tmps.getD 381 undef :: a.tmps.getD 382 undef :: a.tmps.getD 383 undef :: a.tmps.getD 384 undef :: a.tmps.getD 385 undef :: a.tmps.getD 386 undef :: a.tmps.getD 387 undef :: a.tmps.getD 388 undef :: a.tmps.getD 389 undef :: a.tmps.getD 390 undef :: a.tmps.getD 391 undef :: a.tmps.getD 392 undef :: a.tmps.getD 393 undef :: []), []⟩ := by
  obtain ⟨ts, ds⟩ := a
  simp only at h hd
  subst hd
  congr 1
  exact arr_letters ts 394 h
set_option maxRecDepth 1000000 in
set_option maxHeartbeats 4000000 in
theorem over_loop' {w0 : Gr} {w : World} {L2 : EnL} {E2 : Eng} {TL2 : TalL} {t2 : Tal} {N tb : Nat} (HTT : Hid (TaleAt w0 w L2 E2 TL2 t2)) (HEN : Hid (E2.txs.length = N)) (hle : N ≤ 200) (hTb : TL2.b = tb) (Q : Exit → Act → World → Prop)
    (hexit : ∀ (a' : Act) (w' : World), a'.defers = [] ∧ TaleAt w0 w' L2 E2 TL2 (endT E2 t2) → Q (.exit 1) a' w') (a : Act) (hsz : a.tmps.size = 394) (h0 : a.tmps.getD 0 undef = .pointer (some ⟨tb, 0, none⟩)) (h27 : a.tmps.getD 27 undef = .int .i64 0) (hd : a.defers = []) :
    Code.wp Tryz.prog (Code.loop overBody) Q a w := by
  rw [act_letters a hsz hd, h0, h27]
  exact over_loop HTT HEN hle hTb Q hexit _ _ _ _ _ _ _ _ _ _ _ _ _ _ _ _ _ _ _ _ _ _ _ _ _ _ _ _ _ _ _ _ _ _ _ _ _ _ _ _ _ _ _ _ _ _ _ _ _ _ _ _ _ _ _ _ _ _ _ _ _ _ _ _ _ _ _ _ _ _ _ _ _ _ _ _ _ _ _ _ _ _ _ _ _ _ _ _ _ _ _ _ _ _ _ _ _ _ _ _ _ _ _ _ _ _ _ _ _ _ _ _ _ _ _ _ _ _ _ _ _ _ _ _ _ _ _ _ _ _ _ _ _ _ _ _ _ _ _ _ _ _ _ _ _ _ _ _ _ _ _ _ _ _ _ _ _ _ _ _ _ _ _ _ _ _ _ _ _ _ _ _ _ _ _ _ _ _ _ _ _ _ _ _ _ _ _ _ _ _ _ _ _ _ _ _ _ _ _ _ _ _ _ _ _ _ _ _ _ _ _ _ _ _ _ _ _ _ _ _ _ _ _ _ _ _ _ _ _ _ _ _ _ _ _ _ _ _ _ _ _ _ _ _ _ _ _ _ _ _ _ _ _ _ _ _ _ _ _ _ _ _ _ _ _ _ _ _ _ _ _ _ _ _ _ _ _ _ _ _ _ _ _ _ _ _ _ _ _ _ _ _ _ _ _ _ _ _ _ _ _ _ _ _ _ _ _ _ _ _ _ _ _ _ _ _ _ _ _ _ _ _ _ _ _ _ _ _ _ _ _ _ _ _ _ _ _ _ _ _ _ _ _ _ _ _ _ _ _ _ _ _ _ _ _ _ _ _ _ _ _ _ _ _ _ _ _ _ _ _ _ _ _ _ _ _ _ _ _ _ _ _ _ _ _ _ _ _ _ _ _ _
theorem over_loop2 {w0 : Gr} {w : World} {L2 : EnL} {E2 : Eng} {TL2 : TalL} {t2 : Tal} {N tb : Nat} (HTT : Hid (TaleAt w0 w L2 E2 TL2 t2)) (HEN : Hid (E2.txs.length = N)) (hle : N ≤ 200) (hTb : TL2.b = tb) (Q : Exit → Act → World → Prop)
    (hexit : ∀ (a' : Act) (w' : World), a'.defers = [] ∧ TaleAt w0 w' L2 E2 TL2 (endT E2 t2) → Q (.exit 1) a' w') (a : Act) (hsz : a.tmps.size = 394) (h0 : a.tmps.getD 0 undef = .pointer (some ⟨tb, 0, none⟩)) :
    Code.wp Tryz.prog (Code.loop overBody) Q ⟨a.tmps.setIfInBounds 27 (.int .i64 0), []⟩ w :=
  over_loop' HTT HEN hle hTb Q hexit ⟨a.tmps.setIfInBounds 27 (.int .i64 0), []⟩ (by simpa using hsz) ((getD_put_ne (a := a) (d := 0) (e := 27) (v := .int .i64 0) (by decide)).trans h0) (getD_put_same (a := a) (d := 27) (v := .int .i64 0) (by rw [hsz]; decide)) rfl
end Go.Proofs.YtjefgmeejhakbaaGreatDoor
