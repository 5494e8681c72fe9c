/- EnTight EnMem FsAll Shelf FsNewer: put together for a claim. -/
import Derived.Test.YtjefgmeejhakbaaGreatDoorMgAI
import Derived.Test.YtjefgmeejhakbaaGreatDoorMgAG
import Derived.Shelf.Small.Bits
import Derived.Shelf.Strconv.Itoa0
import Derived.Shelf.Sort.Plain
import Derived.Ground.Names2Prog
import Derived.Shelf.Slices.SearchI
import Derived.Shelf.Slices.In.SortNone
import Derived.Shelf.Slices.In.SortNone2
import Derived.Test.YtjefgmeejhakbaaGreatDoorProg
import Derived.Sort.OwnSortedInts
/- How many entries a map of ints can have, by its keys. -/
namespace Go.Proofs.YtjefgmeejhakbaaGreatDoor
open Go.RowKit
theorem nodup_le {α:Type}:∀ (l m:List α),l.Pairwise (fun a b=>a≠b)→(∀ x∈l,x∈m)→l.length≤m.length
 | [],_,_,_=>by simp
 | a::r,m,hp,hs=>by
  obtain⟨m1,m2,rfl⟩:=List.append_of_mem (hs a (List.mem_cons_self ..))
  have hp':=List.pairwise_cons.1 hp
  have:=nodup_le r (m1++m2) hp'.2 (fun x hx=>by
   have h1:=hs x (List.mem_cons_of_mem _ hx)
   have h2:=hp'.1 x hx
   rw [List.mem_append,List.mem_cons] at h1
   rw [List.mem_append]
   rcases h1 with h | h | h
   ·exact .inl h
   ·exact (h2 h.symm).elim
   ·exact .inr h)
  simp only [List.length_append,List.length_cons] at this ⊢
  omega
theorem IMap.tight {w:World} {b n:Nat} {f:Int→Option Value} (h:IMap w b n f) (sup:List Int) (hs:∀ a,f a≠none→a∈sup):IMap w b sup.length f:=by
 obtain⟨D,⟨es,clock,hb,F,hz,rfl⟩,h2⟩:=h
 refine⟨_,⟨es,clock,hb,F,?_,rfl⟩,h2⟩
 have hA:=Maps.fit_apart lawI F
 have h3:=nodup_le ((es.toList.map (WideElems.rg Tryz.prog 3 anyElem)).map (fun p=>p.1)) (sup.map (Lit.int .i64)) (by rw [List.pairwise_map];exact hA) (fun x hx=>by
  obtain⟨p,hp,rfl⟩:=List.mem_map.1 hx
  obtain⟨y,hy,rfl⟩:=List.mem_map.1 hp
  obtain⟨v,hv⟩:=Maps.fit_keys F _ hp
  obtain⟨a,_,hk,_⟩:=Maps.keyOf_int_inv Tryz.underlying3 hv
  rw [hk]
  refine List.mem_map.2 ⟨a,hs a (fun e=>?_),rfl⟩
  have h3:=(h2 a).1
  rw [e] at h3
  have h4:Maps.has (DataW.map ((es.toList.map (WideElems.rg Tryz.prog 3 anyElem)).foldr DataW.insert [])) (.int .i64 a)=true:=by
   rw [Maps.has_eq,List.any_eq_true]
   refine⟨_,(WideShapes.sorted_perm _).mem_iff.2 hp,?_⟩
   rw [hk]
   simp [Lit.sameKey]
  rw [h4] at h3
  cases h3)
 simpa using h3
def upTo (n:Nat):List Int:=(List.range n).map Int.ofNat
theorem mem_upTo {n:Nat} {a:Int} (h0:0≤a) (h1:a<n):a∈upTo n:=List.mem_map.2 ⟨a.toNat,by rw [List.mem_range];omega,by simp;omega⟩
theorem upTo_length (n:Nat):(upTo n).length=n:=by simp [upTo]
theorem IMap.upTo {w:World} {b n:Nat} {f:Int→Option Value} (h:IMap w b n f) (m:Nat) (hs:∀ a,f a≠none→0≤a∧a<m):IMap w b m f:=by
 have:=h.tight (Go.Proofs.YtjefgmeejhakbaaGreatDoor.upTo m) (fun a ha=>mem_upTo (hs a ha).1 (hs a ha).2)
 rwa [upTo_length] at this
theorem MapIs.upTo {w:World} {mv:Option Nat} {n:Nat} {f:Int→Option Value} (h:MapIs w mv n f) (m:Nat) (hs:∀ a,f a≠none→0≤a∧a<m):MapIs w mv m f:=by
 rcases h with h | ⟨b,e,h⟩
 ·exact .inl h
 ·exact .inr ⟨b,e,h.upTo m hs⟩
end Go.Proofs.YtjefgmeejhakbaaGreatDoor
/- The engine: plain, and how it lies in memory. -/
namespace Go.Proofs.YtjefgmeejhakbaaGreatDoor
open Go.RowKit
structure Tx where
 level:Int
 start:Int
 state:Int
 why:Int
 bae:Int
 wk:Int
 wv:Int
 vals:Int→Option Int
 reads:List (Int × Int)
 seen:List Bool
 ahead:Int→Bool
 behind:Int→Bool
structure Eng where
 last:Int
 ks:List (List (Int × Int))
 T:Tab
 txs:List Tx
 wr:Int→Option Int
 com:List Nat
 nw:Nat
def Eng.setTx (E:Eng) (i:Nat) (t:Tx):Eng:={ E with txs:=E.txs.set i t }
structure TxL where
 b:Nat
 vb:Nat
 rv:Value
 ab:Nat
 hb:Nat
def TxL.own (l:TxL) (g:Nat):Prop:=g=l.b∨g=l.vb∨g=l.ab∨g=l.hb∨l.rv.ownBlock=some g
structure EnL where
 s:Nat
 vs:List Value
 M:LkM
 av:Value
 wb:Nat
 cv:Value
 txs:List TxL
def EnL.setTx (L:EnL) (i:Nat) (l:TxL):EnL:={ L with txs:=L.txs.set i l }
inductive Tag where
 | eng:Tag
 | srow:Tag
 | lock:Tag
 | all:Tag
 | wr:Tag
 | com:Tag
 | tx:Nat→Tag
def opsV:List (Int × Int × Bool × Int)→List Value
 | []=>[]
 | o::r=>.int .i64 o.1::.int .i64 o.2.1::.bool o.2.2.1::.int .i64 o.2.2.2::opsV r
theorem opsV_append:∀ l m,opsV (l++m)=opsV l++opsV m
 | [],_=>rfl
 | _::r,m=>by simp [opsV,opsV_append r m]
theorem opsV_one:∀ (l:List (Int × Int × Bool × Int)),∀ u∈opsV l,u.oneCell'=true
 | [],u,h=>by simp [opsV] at h
 | o::r,u,h=>by
  simp only [opsV,List.mem_cons] at h
  rcases h with rfl | rfl | rfl | rfl | h
  ·rfl
  ·rfl
  ·rfl
  ·rfl
  ·exact opsV_one r u h
def readOps (n:Int) (l:List (Int × Int)):List (Int × Int × Bool × Int):=l.map fun p=>(n,p.1,false,p.2)
def txCells (n:Int) (l:TxL) (t:Tx):Array Value :=
 (.int .i64 n::.int .i64 t.level::.int .i64 t.start::.int .i64 t.state::.int .i64 t.why::.int .i64 t.bae::.int .i64 t.wk::.int .i64 t.wv::.map (some l.vb)::l.rv::(t.seen.map Value.bool++[.map (some l.ab),.map (some l.hb)])).toArray
structure TxAt (w:World) (n:Int) (l:TxL) (t:Tx):Prop where
 blk:w.heap[l.b]?=some (.cells (txCells n l t) 183 (0,0))
 va:IMap w l.vb 10 (fun k=>(t.vals k).map (Value.int .i64))
 rd:w.ownsRow 0 90 4 l.rv t.reads.length (opsV (readOps n t.reads))
 ah:ISet w l.ab 201 t.ahead
 be:ISet w l.hb 201 t.behind
 d1:l.vb≠l.ab
 d2:l.vb≠l.hb
 d3:l.ab≠l.hb
 sl:t.seen.length=10
 vk:∀ k,t.vals k≠none→0≤k∧k<10
 aN:∀ x,t.ahead x=true→1≤x∧x≤200
 bN:∀ x,t.behind x=true→1≤x∧x≤200
 wkr:0≤t.wk∧t.wk<10
theorem owns_lt {w:World} {base sz:Nat} {T:TypeId} {v:Value} {n:Nat} {vs:List Value} (h:w.ownsRow base T sz v n vs) {g:Nat} (hg:v.ownBlock=some g):g<w.heap.size:=(h.lt g hg).2
theorem owns_typ {w:World} {base sz:Nat} {T:TypeId} {v:Value} {n:Nat} {vs:List Value} (h:w.ownsRow base T sz v n vs) {g:Nat} (hg:v.ownBlock=some g):∃ cur,w.heap[g]?=some (.cells cur T (0,0)):=by
 rcases h.2 with ⟨e,_⟩ | ⟨g',cap,cur,e,_,hc,_⟩
 ·rw [e] at hg;cases hg
 ·rw [e] at hg;cases hg;exact⟨cur,hc⟩
section
variable {w w':World} {n:Int} {l:TxL} {t:Tx}
theorem TxAt.lt (h:TxAt w n l t):l.b<w.heap.size:=(Array.getElem?_eq_some_iff.1 h.blk).1
theorem TxAt.own_lt (h:TxAt w n l t) {g:Nat} (hg:l.own g):g<w.heap.size:=by
 rcases hg with rfl | rfl | rfl | rfl | hg
 ·exact h.lt
 ·exact h.va.lt
 ·exact h.ah.lt
 ·exact h.be.lt
 ·exact owns_lt h.rd hg
theorem TxAt.same (h:TxAt w n l t) (hs:∀ g,l.own g→w'.heap[g]?=w.heap[g]?):TxAt w' n l t :=
 ⟨(hs _ (.inl rfl)).trans h.blk,h.va.same (hs _ (.inr (.inl rfl))),owns_same h.rd (fun g hg=>hs g (.inr (.inr (.inr (.inr hg))))),h.ah.same (hs _ (.inr (.inr (.inl rfl)))),h.be.same (hs _ (.inr (.inr (.inr (.inl rfl))))),h.d1,h.d2,h.d3,h.sl,h.vk,h.aN,h.bN,h.wkr⟩
theorem TxAt.ne_va (h:TxAt w n l t):l.b≠l.vb:=(h.va.ne h.blk).symm
theorem TxAt.ne_ah (h:TxAt w n l t):l.b≠l.ab:=(IMap.ne h.ah h.blk).symm
theorem TxAt.ne_be (h:TxAt w n l t):l.b≠l.hb:=(IMap.ne h.be h.blk).symm
theorem TxAt.rd_ne (h:TxAt w n l t) {g:Nat} (hg:l.rv.ownBlock=some g):g≠l.b∧g≠l.vb∧g≠l.ab∧g≠l.hb:=by
 obtain⟨cur,hc⟩:=owns_typ h.rd hg
 refine⟨?_,(h.va.ne hc).symm,(IMap.ne h.ah hc).symm,(IMap.ne h.be hc).symm⟩
 rintro rfl
 rw [h.blk] at hc
 injection hc with hc
 injection hc with _ hc
 exact absurd hc (by decide)
theorem txCells_get (n:Int) (l:TxL) (t:Tx):(txCells n l t)[0]?=some (.int .i64 n)∧(txCells n l t)[1]?=some (.int .i64 t.level)∧(txCells n l t)[2]?=some (.int .i64 t.start)∧(txCells n l t)[3]?=some (.int .i64 t.state)∧(txCells n l t)[4]?=some (.int .i64 t.why)∧(txCells n l t)[5]?=some (.int .i64 t.bae) ∧
  (txCells n l t)[6]?=some (.int .i64 t.wk)∧(txCells n l t)[7]?=some (.int .i64 t.wv)∧(txCells n l t)[8]?=some (.map (some l.vb))∧(txCells n l t)[9]?=some l.rv:=by
 unfold txCells;simp
theorem txCells_seen (n:Int) (l:TxL) (t:Tx) {k:Nat} {b:Bool} (h:t.seen[k]?=some b):(txCells n l t)[10+k]?=some (.bool b):=by
 have hk:=(List.getElem?_eq_some_iff.1 h).1
 unfold txCells
 rw [List.getElem?_toArray,show 10+k=k+1+1+1+1+1+1+1+1+1+1 from by omega]
 simp only [List.getElem?_cons_succ]
 rw [List.getElem?_append_left (by simpa using hk)]
 simp [h]
theorem txCells_last (n:Int) (l:TxL) (t:Tx) (h:t.seen.length=10):(txCells n l t)[20]?=some (.map (some l.ab))∧(txCells n l t)[21]?=some (.map (some l.hb)):=by
 unfold txCells
 simp [h]
theorem TxAt.c0 (h:TxAt w n l t):w.cell? ⟨l.b,0,none⟩=some (.int .i64 n):=(cell_of_row w l.b 0 _ _ (0,0) h.blk).trans (txCells_get n l t).1
theorem TxAt.c1 (h:TxAt w n l t):w.cell? ⟨l.b,1,none⟩=some (.int .i64 t.level):=(cell_of_row w l.b 1 _ _ (0,0) h.blk).trans (txCells_get n l t).2.1
theorem TxAt.c2 (h:TxAt w n l t):w.cell? ⟨l.b,2,none⟩=some (.int .i64 t.start):=(cell_of_row w l.b 2 _ _ (0,0) h.blk).trans (txCells_get n l t).2.2.1
theorem TxAt.c3 (h:TxAt w n l t):w.cell? ⟨l.b,3,none⟩=some (.int .i64 t.state):=(cell_of_row w l.b 3 _ _ (0,0) h.blk).trans (txCells_get n l t).2.2.2.1
theorem TxAt.c4 (h:TxAt w n l t):w.cell? ⟨l.b,4,none⟩=some (.int .i64 t.why):=(cell_of_row w l.b 4 _ _ (0,0) h.blk).trans (txCells_get n l t).2.2.2.2.1
theorem TxAt.c5 (h:TxAt w n l t):w.cell? ⟨l.b,5,none⟩=some (.int .i64 t.bae):=(cell_of_row w l.b 5 _ _ (0,0) h.blk).trans (txCells_get n l t).2.2.2.2.2.1
theorem TxAt.c6 (h:TxAt w n l t):w.cell? ⟨l.b,6,none⟩=some (.int .i64 t.wk):=(cell_of_row w l.b 6 _ _ (0,0) h.blk).trans (txCells_get n l t).2.2.2.2.2.2.1
theorem TxAt.c7 (h:TxAt w n l t):w.cell? ⟨l.b,7,none⟩=some (.int .i64 t.wv):=(cell_of_row w l.b 7 _ _ (0,0) h.blk).trans (txCells_get n l t).2.2.2.2.2.2.2.1
theorem TxAt.c8 (h:TxAt w n l t):w.cell? ⟨l.b,8,none⟩=some (.map (some l.vb)):=(cell_of_row w l.b 8 _ _ (0,0) h.blk).trans (txCells_get n l t).2.2.2.2.2.2.2.2.1
theorem TxAt.c9 (h:TxAt w n l t):w.cell? ⟨l.b,9,none⟩=some l.rv:=(cell_of_row w l.b 9 _ _ (0,0) h.blk).trans (txCells_get n l t).2.2.2.2.2.2.2.2.2
theorem TxAt.cs (h:TxAt w n l t) {k:Nat} {b:Bool} (hk:t.seen[k]?=some b):w.cell? ⟨l.b,10+k,none⟩=some (.bool b):=(cell_of_row w l.b (10+k) _ _ (0,0) h.blk).trans (txCells_seen n l t hk)
theorem TxAt.c20 (h:TxAt w n l t):w.cell? ⟨l.b,20,none⟩=some (.map (some l.ab)):=(cell_of_row w l.b 20 _ _ (0,0) h.blk).trans (txCells_last n l t h.sl).1
theorem TxAt.c21 (h:TxAt w n l t):w.cell? ⟨l.b,21,none⟩=some (.map (some l.hb)):=(cell_of_row w l.b 21 _ _ (0,0) h.blk).trans (txCells_last n l t h.sl).2
theorem TxAt.txc (h:TxAt w n l t):TxC w l.b n t.state l.ab l.hb:=⟨_,h.blk,(txCells_get n l t).1,(txCells_get n l t).2.2.2.1,(txCells_last n l t h.sl).1,(txCells_last n l t h.sl).2⟩
theorem TxAt.free (h:TxAt w n l t) (o:Nat):w.frozen? ⟨l.b,o,none⟩=false:=by simp [World.frozen?,h.blk]
end
def EnL.P (L:EnL):Tail:=⟨[.map L.M.mh,.map L.M.mw,.map L.M.ml,L.av,.map (some L.wb),L.cv],162⟩
def EnL.C (L:EnL) (last:Int):Emb:=⟨.int .i64 last::L.vs,[L.av,.map (some L.wb),L.cv],162,by decide⟩
theorem EnL.cells_eq (L:EnL) (last:Int):L.P.cells last L.vs=(L.C last).cells (.map L.M.mh) (.map L.M.mw) (.map L.M.ml):=by
 simp [EnL.P,EnL.C,Tail.cells,Emb.cells]
def ptrV (b:Nat):Value:=.pointer (some ⟨b,0,none⟩)
def EnL.bs (L:EnL):List Nat:=L.txs.map TxL.b
def EnL.own (L:EnL) (g:Nat):Prop:=g=L.s∨InRows L.vs g∨L.M.own L.s g∨L.av.ownBlock=some g∨g=L.wb∨L.cv.ownBlock=some g∨∃ l∈L.txs,l.own g
structure Tagged (L:EnL) (ρ:Nat→Tag):Prop where
 eng:ρ L.s=.eng
 srow:∀ g,InRows L.vs g→ρ g=.srow
 lock:∀ g,L.M.own L.s g→g≠L.s→ρ g=.lock
 all:∀ g,L.av.ownBlock=some g→ρ g=.all
 wr:ρ L.wb=.wr
 com:∀ g,L.cv.ownBlock=some g→ρ g=.com
 tx:∀ i l g,L.txs[i]?=some l→l.own g→ρ g=.tx i
structure EnAt (w:World) (L:EnL) (E:Eng):Prop where
 sto:Sto L.P w (L.s+1) L.s E.last L.vs E.ks
 loc:TabAt (L.C E.last) w L.s 201 L.M E.T
 good:Good E.T
 mem:∀ k x,x∈E.T k→1≤x∧x≤E.txs.length
 all:w.ownsRow 0 179 1 L.av L.txs.length (L.bs.map ptrV)
 len:L.txs.length=E.txs.length
 le:E.txs.length≤200
 wr:IMap w L.wb E.nw (fun a=>(E.wr a).map (Value.int .i64))
 com:w.ownsRow 0 179 1 L.cv E.com.length (E.com.map fun i=>ptrV (L.bs[i]?.getD 0))
 coml:∀ i∈E.com,i<E.txs.length
 txs:∀ (i:Nat) (l:TxL) (t:Tx),L.txs[i]?=some l→E.txs[i]?=some t→TxAt w ((i:Int)+1) l t
 tag:∃ ρ,Tagged L ρ
section
variable {w w':World} {L L':EnL} {E E':Eng}
theorem EnAt.lv (h:EnAt w L E):L.vs.length=10:=h.sto.lv
theorem EnAt.o (h:EnAt w L E):(L.C E.last).o=11:=by simp [EnL.C,Emb.o,h.lv]
theorem EnAt.get (h:EnAt w L E) {i:Nat} {t:Tx} (ht:E.txs[i]?=some t):∃ l,L.txs[i]?=some l∧TxAt w ((i:Int)+1) l t:=by
 have hi:i<L.txs.length:=by have:=(List.getElem?_eq_some_iff.1 ht).1;have:=h.len;omega
 exact⟨L.txs[i],List.getElem?_eq_getElem hi,h.txs i _ t (List.getElem?_eq_getElem hi) ht⟩
theorem EnAt.getL (h:EnAt w L E) {i:Nat} {l:TxL} (hl:L.txs[i]?=some l):∃ t,E.txs[i]?=some t∧TxAt w ((i:Int)+1) l t:=by
 have hi:i<E.txs.length:=by have:=(List.getElem?_eq_some_iff.1 hl).1;have:=h.len;omega
 exact⟨E.txs[i],List.getElem?_eq_getElem hi,h.txs i _ _ hl (List.getElem?_eq_getElem hi)⟩
theorem EnAt.own_lt (h:EnAt w L E) {g:Nat} (hg:L.own g):g<w.heap.size:=by
 rcases hg with rfl | hg | hg | hg | rfl | hg | ⟨l,hl,hg⟩
 ·exact h.sto.lt
 ·exact (h.sto.row hg).2
 ·obtain⟨_,_,_,r,_⟩:=h.loc
  exact r.own_lt hg
 ·exact owns_lt h.all hg
 ·exact h.wr.lt
 ·exact owns_lt h.com hg
 ·obtain⟨i,hi,rfl⟩:=List.mem_iff_getElem.1 hl
  obtain⟨t,_,hA⟩:=h.getL (List.getElem?_eq_getElem hi)
  exact hA.own_lt hg
theorem TxL.own_in {l:TxL} {i:Nat} (hl:L.txs[i]?=some l) {g:Nat} (hg:l.own g):L.own g:=.inr (.inr (.inr (.inr (.inr (.inr ⟨l,List.mem_of_getElem? hl,hg⟩)))))
theorem EnAt.same (h:EnAt w L E) (hs:∀ g,L.own g→w'.heap[g]?=w.heap[g]?):EnAt w' L E :=
 ⟨h.sto.kept (hs _ (.inl rfl)) (fun g hg=>hs g (.inr (.inl hg))),h.loc.same (fun g hg=>hs g (.inr (.inr (.inl hg)))),h.good,h.mem,owns_same h.all (fun g hg=>hs g (.inr (.inr (.inr (.inl hg))))),h.len,h.le,
  h.wr.same (hs _ (.inr (.inr (.inr (.inr (.inl rfl)))))),owns_same h.com (fun g hg=>hs g (.inr (.inr (.inr (.inr (.inr (.inl hg))))))),h.coml,fun i l t hl ht=>(h.txs i l t hl ht).same (fun g hg=>hs g (TxL.own_in hl hg)),h.tag⟩
theorem EnAt.below (h:EnAt w L E) (hB:Below w.heap.size w w'):EnAt w' L E:=h.same (fun g hg=>hB.block g (h.own_lt hg))
theorem EnAt.c14 (h:EnAt w L E):w.cell? ⟨L.s,14,none⟩=some L.av:=by
 refine (cell_of_row w L.s 14 _ _ (0,0) h.sto.blk).trans ?_
 unfold Tail.cells EnL.P
 simp [h.lv]
theorem EnAt.c15 (h:EnAt w L E):w.cell? ⟨L.s,15,none⟩=some (.map (some L.wb)):=by
 refine (cell_of_row w L.s 15 _ _ (0,0) h.sto.blk).trans ?_
 unfold Tail.cells EnL.P
 simp [h.lv]
theorem EnAt.c16 (h:EnAt w L E):w.cell? ⟨L.s,16,none⟩=some L.cv:=by
 refine (cell_of_row w L.s 16 _ _ (0,0) h.sto.blk).trans ?_
 unfold Tail.cells EnL.P
 simp [h.lv]
theorem bs_get {i:Nat} {l:TxL} (hl:L.txs[i]?=some l):L.bs[i]?=some l.b:=by simp [EnL.bs,hl]
theorem EnAt.apart (h:EnAt w L E) {i j:Nat} {l m:TxL} (hl:L.txs[i]?=some l) (hm:L.txs[j]?=some m) (hij:i≠j) {g:Nat} (hg:l.own g):¬ m.own g:=fun hg'=>by
 obtain⟨ρ,T⟩:=h.tag
 have:=(T.tx i l g hl hg).symm.trans (T.tx j m g hm hg')
 injection this with e
 exact hij e
theorem EnAt.turnTxs (h:EnAt w L E) (txs':List Tx) (hlen:txs'.length=E.txs.length) (hA:∀ (i:Nat) (l:TxL) (t:Tx),L.txs[i]?=some l→txs'[i]?=some t→TxAt w' ((i:Int)+1) l t)
  (hs:∀ g,L.own g→(∀ l∈L.txs,¬ l.own g)→w'.heap[g]?=w.heap[g]?):EnAt w' L { E with txs:=txs' }:=by
 obtain⟨ρ,T⟩:=h.tag
 have hno:∀ g,(∀ i,ρ g≠.tx i)→∀ l∈L.txs,¬ l.own g:=fun g hg l hl ho=>by
  obtain⟨i,hi,rfl⟩:=List.mem_iff_getElem.1 hl
  exact hg i (T.tx i _ g (List.getElem?_eq_getElem hi) ho)
 have hk:∀ g,L.own g→(∀ i,ρ g≠.tx i)→w'.heap[g]?=w.heap[g]?:=fun g hg hn=>hs g hg (hno g hn)
 exact⟨h.sto.kept (hk _ (.inl rfl) (fun i e=>by rw [T.eng] at e;cases e)) (fun g hg=>hk g (.inr (.inl hg)) (fun i e=>by rw [T.srow g hg] at e;cases e)),
  h.loc.same (fun g hg=>hk g (.inr (.inr (.inl hg))) (fun i e=>by
   by_cases hgs:g=L.s
   ·rw [hgs,T.eng] at e;cases e
   ·rw [T.lock g hg hgs] at e;cases e)),h.good,(by rw [hlen];exact h.mem),owns_same h.all (fun g hg=>hk g (.inr (.inr (.inr (.inl hg)))) (fun i e=>by rw [T.all g hg] at e;cases e)),h.len.trans hlen.symm,(by rw [hlen];exact h.le),
  h.wr.same (hk _ (.inr (.inr (.inr (.inr (.inl rfl))))) (fun i e=>by rw [T.wr] at e;cases e)),owns_same h.com (fun g hg=>hk g (.inr (.inr (.inr (.inr (.inr (.inl hg)))))) (fun i e=>by rw [T.com g hg] at e;cases e)),
  (by rw [hlen];exact h.coml),hA,ρ,T⟩
theorem own_setTx {i:Nat} {l':TxL} {g:Nat} (h:(L.setTx i l').own g):L.own g∨l'.own g:=by
 rcases h with h | h | h | h | h | h | ⟨m,hm,h⟩
 ·exact .inl (.inl h)
 ·exact .inl (.inr (.inl h))
 ·exact .inl (.inr (.inr (.inl h)))
 ·exact .inl (.inr (.inr (.inr (.inl h))))
 ·exact .inl (.inr (.inr (.inr (.inr (.inl h)))))
 ·exact .inl (.inr (.inr (.inr (.inr (.inr (.inl h))))))
 ·rcases List.mem_or_eq_of_mem_set hm with hm | rfl
  ·exact .inl (.inr (.inr (.inr (.inr (.inr (.inr ⟨m,hm,h⟩))))))
  ·exact .inr h
theorem bs_setTx {i:Nat} {l l':TxL} (hl:L.txs[i]?=some l) (hb:l'.b=l.b):(L.setTx i l').bs=L.bs:=by
 unfold EnL.setTx EnL.bs
 rw [List.map_set,hb]
 refine List.ext_getElem? (fun j=>?_)
 rw [List.getElem?_set]
 split
 ·rename_i e
  subst e
  have:=(List.getElem?_eq_some_iff.1 hl).1
  rw [if_pos (by simpa using this)]
  simp [hl]
 ·rfl
theorem EnAt.setTx (h:EnAt w L E) {i:Nat} {l l':TxL} {t t':Tx} (hl:L.txs[i]?=some l) (ht:E.txs[i]?=some t) (hb:l'.b=l.b) (hK:KeptO l.own l'.own w w') (hA:TxAt w' ((i:Int)+1) l' t') :
  EnAt w' (L.setTx i l') (E.setTx i t')∧KeptO L.own (L.setTx i l').own w w':=by
 obtain⟨ρ,T⟩:=h.tag
 have hi:=(List.getElem?_eq_some_iff.1 hl).1
 have hi2:=(List.getElem?_eq_some_iff.1 ht).1
 have hA0:=h.txs i l t hl ht
 have hk:∀ g,L.own g→ρ g≠.tx i→w'.heap[g]?=w.heap[g]?:=fun g hg hn=>hK.block g (h.own_lt hg) (fun ho=>hn (T.tx i l g hl ho))
 have hbs:=bs_setTx hl hb
 refine⟨⟨h.sto.kept (hk _ (.inl rfl) (fun e=>by rw [T.eng] at e;cases e)) (fun g hg=>hk g (.inr (.inl hg)) (fun e=>by rw [T.srow g hg] at e;cases e)),
  h.loc.same (fun g hg=>hk g (.inr (.inr (.inl hg))) (fun e=>by
   by_cases hgs:g=L.s
   ·rw [hgs,T.eng] at e;cases e
   ·rw [T.lock g hg hgs] at e;cases e)),h.good,(by simpa [Eng.setTx] using h.mem),?_,(by simpa [Eng.setTx,EnL.setTx] using h.len),(by simpa [Eng.setTx] using h.le),
  h.wr.same (hk _ (.inr (.inr (.inr (.inr (.inl rfl))))) (fun e=>by rw [T.wr] at e;cases e)),?_,(by simpa [Eng.setTx] using h.coml),?_,fun g=>if g<w.heap.size then ρ g else .tx i,?_⟩,?_⟩
 ·rw [hbs]
  have:(L.setTx i l').txs.length=L.txs.length:=by simp [EnL.setTx]
  rw [this]
  exact owns_same h.all (fun g hg=>hk g (.inr (.inr (.inr (.inl hg)))) (fun e=>by rw [T.all g hg] at e;cases e))
 ·rw [hbs]
  exact owns_same h.com (fun g hg=>hk g (.inr (.inr (.inr (.inr (.inr (.inl hg)))))) (fun e=>by rw [T.com g hg] at e;cases e))
 ·intro j m u hm hu
  simp only [EnL.setTx,Eng.setTx,List.getElem?_set] at hm hu
  by_cases hij:i=j
  ·subst hij
   rw [if_pos rfl,if_pos hi] at hm
   rw [if_pos rfl,if_pos hi2] at hu
   cases hm
   cases hu
   exact hA
  ·rw [if_neg hij] at hm hu
   exact (h.txs j m u hm hu).same (fun g hg=>hk g (TxL.own_in hm hg) (fun e=>by rw [T.tx j m g hm hg] at e;injection e with e;exact hij e.symm))
 ·have hlt:∀ g,L.own g→(if g<w.heap.size then ρ g else Tag.tx i)=ρ g:=fun g hg=>if_pos (h.own_lt hg)
  refine⟨(hlt _ (.inl rfl)).trans T.eng,fun g hg=>(hlt g (.inr (.inl hg))).trans (T.srow g hg),fun g hg hn=>(hlt g (.inr (.inr (.inl hg)))).trans (T.lock g hg hn),fun g hg=>(hlt g (.inr (.inr (.inr (.inl hg))))).trans (T.all g hg),(hlt _ (.inr (.inr (.inr (.inr (.inl rfl)))))).trans T.wr,
   fun g hg=>(hlt g (.inr (.inr (.inr (.inr (.inr (.inl hg))))))).trans (T.com g hg),fun j m g hm hg=>?_⟩
  simp only [EnL.setTx,List.getElem?_set] at hm
  by_cases hij:i=j
  ·subst hij
   rw [if_pos rfl,if_pos hi] at hm
   cases hm
   rcases hK.sub g hg with ho | hn
   ·exact (hlt g (TxL.own_in hl ho)).trans (T.tx i l g hl ho)
   ·simp only [if_neg (Nat.not_lt.2 hn)]
  ·rw [if_neg hij] at hm
   exact (hlt g (TxL.own_in hm hg)).trans (T.tx j m g hm hg)
 ·refine⟨hK.os,hK.tape,hK.output,hK.size,fun g hg hn=>hK.block g hg (fun ho=>hn (TxL.own_in hl ho)),fun g hg=>?_⟩
  rcases own_setTx hg with h1 | h1
  ·exact .inl h1
  ·rcases hK.sub g h1 with h2 | h2
   ·exact .inl (TxL.own_in hl h2)
   ·exact .inr h2
end
end Go.Proofs.YtjefgmeejhakbaaGreatDoor
/- All of the document's store. -/
namespace Go.Proofs.YtjefgmeejhakbaaGreatDoor
open Go.RowKit
variable {P:Tail}
set_option maxRecDepth 100000 in
set_option maxHeartbeats 2000000 in
theorem refAll_any (base R:Nat) (t last:Int) (lv:Value) (L:List (Int × Int × Int)) (w:World) (hlen:L.length≤100000) (h:Ref P w base R last lv L) :
  Calls Tryz.prog 88 #[.pointer (some ⟨R,0,none⟩),.int .i64 t] w fun e w'=>∃ tv,e=.returned tv ∧
   w'.ownsRow w.heap.size 78 2 tv (allK (fun k=>best k t L) 10).length (vrow (allK (fun k=>best k t L) 10))∧Below w.heap.size w w':=by
 obtain⟨i0,hi0,hz0,hz1,hz2⟩:=info_parts info78
 have HR:=hid h
 clear h
 go_enter Tryz.func88,Tryz.ntmps88
 go_wp2
 go_loopw [5,9] (fun tv i wr=>∃ j:Nat,j≤10∧i=.int .i64 j∧wr.ownsRow w.heap.size 78 2 tv (allK (fun k=>best k t L) j).length (vrow (allK (fun k=>best k t L) j))∧Below w.heap.size w wr) (fun _ i _=>10-(intOf i).toNat)
 case atStart=>exact⟨0,by omega,rfl,by simpa [allK,vrow] using World.ownsRow_nil w w.heap.size 78 2,Below.refl _ _⟩
 case round =>
  obtain⟨j,hj,rfl,hown,hB⟩:=hrel
  have hBs:=hB.size
  have hal:=allK_length (fun k=>best k t L) j
  by_cases hlt:j<10
  ·have hj0:(0:Int)≤(j:Int):=by omega
   have hj1:(j:Int)<10:=by omega
   have hin:inB (j:Int) 0 9=true:=by simp [inB];omega
   have HO:=hid hown
   clear hown
   go_wp2_with fail
   refine (refRead_any base R j t last lv L wr hin hlen (HR.out.below hB)).mono ?_
   rintro e w1 ⟨rfl,hB1⟩
   have hBw:=hB.trans (hB1.mono hBs)
   have hBws:=hBw.size
   have HO1:=hid (owns_same HO.out (fun g e=>hB1.block g (HO.out.lt g e).2))
   clear HO hB1 hB
   cases hb:best (j:Int) t L with
   | none =>
    have hst:=hid (allK_none (fun k=>best k t L) j hb)
    have HBB:=hid hb
    clear hb
    simp only [errOf,Option.getD_none]
    go_wp2
    go_roundw
    case rel=>exact⟨j+1,by omega,by go_num,by rw [hst.out];exact HO1.out.alloc _,hBw.alloc hBws _⟩
    case measure=>simp [intOf];omega
   | some p =>
    obtain⟨p1,p2⟩:=p
    have hst:=hid (allK_some (fun k=>best k t L) j (p1,p2) hb)
    have HBB:=hid hb
    clear hb
    simp only [errOf,Option.getD_some]
    go_wp2_with (at_builtin;refine wpList_append_lies _ rfl _ _ _ rfl w.heap.size 78 i0 _ 2 16 Tryz.underlying23 hi0 hz0 hz1 hz2 rfl (by omega) u5 _ _ rfl ((HO1.out.alloc _).alloc _) ⟨w1.heap.size+1,0,none⟩ 1 1 [.int .i64 (j:Int),.int .i64 p2] rfl rfl (World.news_of_block (cs:=#[.int .i64 (j:Int),.int .i64 p2]) (t:=78) (fr:=(0,0)) (by have:=heap_alloc_new (w1.alloc (.cells #[.int .i64 p1,.int .i64 p2] 199)) (.cells #[.int .i64 (j:Int),.int .i64 p2] 78);simpa using this)) (by simp [Value.oneCell']) (by omega) (by unfold maxLen;omega) (by omega) (by simp;omega) (w1.heap.size+1+1) (by simp) ?_;intro g' cap' w2 ho hgrow hat hlt2)
    go_roundw
    case rel =>
     refine⟨j+1,by omega,by go_num,?_,?_⟩
     ·rw [hst.out,List.length_append,vrow_append];exact ho
     ·exact hBw.trans (((((Below.refl _ w1).alloc (Nat.le_refl _) _).alloc (by simp) _).mono hBws).grown hgrow (by simp;omega) (fun k e=>(HO1.out.lt k e).1))
    case measure=>simp [intOf];omega
  ·have hj10:j=10:=by omega
   subst hj10
   have HO:=hid hown
   clear hown
   go_wp2
   go_ret
   exact⟨_,rfl,HO.out,hB⟩
end Go.Proofs.YtjefgmeejhakbaaGreatDoor
namespace Go.Proofs
open Go.Shelf
def Tryz.lays128_ren:Go.Shelf.Ren:=⟨fun | 128=>176 | n=>n,fun | 51=>266 | 3=>3 | 4=>4 | 46=>50 | 5=>5 | 9=>9 | n=>n,fun | n=>n⟩
theorem Tryz.lays128:Go.Proofs.Lays.n128 Tryz.prog Tryz.lays128_ren:={
 mixed:=by kernel_rfl
 f128:=Tryz.func176.trans (congrArg some (by kernel_rfl))
 t3:=Tryz.underlying3
 a3:=Tryz.isAgg3
 z3:=Tryz.sizeOf3
 v3:=Tryz.zeroValue3
 t4:=Tryz.underlying4
 a4:=Tryz.isAgg4
 z4:=Tryz.sizeOf4
 v4:=Tryz.zeroValue4
 t5:=Tryz.underlying5
 a5:=Tryz.isAgg5
 z5:=Tryz.sizeOf5
 v5:=Tryz.zeroValue5
 t9:=Tryz.underlying9
 a9:=Tryz.isAgg9
 z9:=Tryz.sizeOf9
 v9:=Tryz.zeroValue9
 t46:=Tryz.underlying50
 a46:=Tryz.isAgg50
 z46:=Tryz.sizeOf50
 v46:=Tryz.zeroValue50
 t51:=Tryz.underlying266
 a51:=Tryz.isAgg266
 z51:=Tryz.sizeOf266
 v51:=Tryz.zeroValue266 }
theorem Tryz.bits_Len32 (x:Int) (w:World) (h0:0≤x) (h1:x≤4294967295) :
  Calls Tryz.prog 176 #[.int .u32 x] w fun e w'=>e=.returned (.int .i64 (Lib.bitLen x.toNat))∧w'=w:=Any.bits_Len32 Tryz.lays128 x w h0 h1
def Tryz.lays125_ren:Go.Shelf.Ren:=⟨fun | 125=>120 | 128=>176 | 129=>177 | n=>n,fun | 46=>50 | 3=>3 | 51=>266 | 53=>257 | 4=>4 | 5=>5 | 9=>9 | n=>n,fun | n=>n⟩
theorem Tryz.lays125:Go.Proofs.Lays.n125 Tryz.prog Tryz.lays125_ren:={
 mixed:=by kernel_rfl
 f125:=Tryz.func120.trans (congrArg some (by kernel_rfl))
 f128:=Tryz.func176.trans (congrArg some (by kernel_rfl))
 f129:=Tryz.func177.trans (congrArg some (by kernel_rfl))
 t3:=Tryz.underlying3
 a3:=Tryz.isAgg3
 z3:=Tryz.sizeOf3
 v3:=Tryz.zeroValue3
 t4:=Tryz.underlying4
 a4:=Tryz.isAgg4
 z4:=Tryz.sizeOf4
 v4:=Tryz.zeroValue4
 t5:=Tryz.underlying5
 a5:=Tryz.isAgg5
 z5:=Tryz.sizeOf5
 v5:=Tryz.zeroValue5
 t9:=Tryz.underlying9
 a9:=Tryz.isAgg9
 z9:=Tryz.sizeOf9
 v9:=Tryz.zeroValue9
 t46:=Tryz.underlying50
 a46:=Tryz.isAgg50
 z46:=Tryz.sizeOf50
 v46:=Tryz.zeroValue50
 t51:=Tryz.underlying266
 a51:=Tryz.isAgg266
 z51:=Tryz.sizeOf266
 v51:=Tryz.zeroValue266
 t53:=Tryz.underlying257
 a53:=Tryz.isAgg257
 z53:=Tryz.sizeOf257
 v53:=Tryz.zeroValue257 }
theorem Tryz.bits_Len (x:Int) (w:World) (h0:0≤x) (h1:x≤18446744073709551615) :
  Calls Tryz.prog 120 #[.int .u64 x] w fun e w'=>e=.returned (.int .i64 (Lib.bitLen x.toNat))∧w'=w:=Any.bits_Len Tryz.lays125 x w h0 h1
def Tryz.lays129_ren:Go.Shelf.Ren:=⟨fun | 129=>177 | n=>n,fun | 53=>257 | 3=>3 | 4=>4 | 46=>50 | 5=>5 | 9=>9 | n=>n,fun | n=>n⟩
theorem Tryz.lays129:Go.Proofs.Lays.n129 Tryz.prog Tryz.lays129_ren:={
 mixed:=by kernel_rfl
 f129:=Tryz.func177.trans (congrArg some (by kernel_rfl))
 t3:=Tryz.underlying3
 a3:=Tryz.isAgg3
 z3:=Tryz.sizeOf3
 v3:=Tryz.zeroValue3
 t4:=Tryz.underlying4
 a4:=Tryz.isAgg4
 z4:=Tryz.sizeOf4
 v4:=Tryz.zeroValue4
 t5:=Tryz.underlying5
 a5:=Tryz.isAgg5
 z5:=Tryz.sizeOf5
 v5:=Tryz.zeroValue5
 t9:=Tryz.underlying9
 a9:=Tryz.isAgg9
 z9:=Tryz.sizeOf9
 v9:=Tryz.zeroValue9
 t46:=Tryz.underlying50
 a46:=Tryz.isAgg50
 z46:=Tryz.sizeOf50
 v46:=Tryz.zeroValue50
 t53:=Tryz.underlying257
 a53:=Tryz.isAgg257
 z53:=Tryz.sizeOf257
 v53:=Tryz.zeroValue257 }
theorem Tryz.bits_Len64 (x:Int) (w:World) (h0:0≤x) (h1:x≤18446744073709551615) :
  Calls Tryz.prog 177 #[.int .u64 x] w fun e w'=>e=.returned (.int .i64 (Lib.bitLen x.toNat))∧w'=w:=Any.bits_Len64 Tryz.lays129 x w h0 h1
def Tryz.lays189_ren:Go.Shelf.Ren:=⟨fun | 189=>204 | 125=>120 | 257=>195 | 128=>176 | 129=>177 | 294=>224 | 295=>225 | 296=>226 | 297=>227 | 298=>228 | 299=>229 | 216=>230 | 300=>231 | 301=>232 | 328=>244 | 329=>220 | 330=>221 | 331=>245 | 332=>246 | 215=>194 | 343=>248 | n=>n,fun | 28=>29 | 3=>3 | 46=>50 | 0=>0 | 51=>266 | 53=>257 | 4=>4 | 183=>277 | 182=>276 | 131=>70 | 5=>5 | 9=>9 | 218=>307 | 222=>305 | 228=>330 | 229=>328 | n=>n,fun | n=>n⟩
theorem Tryz.lays189:Go.Proofs.Lays.n189 Tryz.prog Tryz.lays189_ren:={
 mixed:=by kernel_rfl
 f125:=Tryz.func120.trans (congrArg some (by kernel_rfl))
 f128:=Tryz.func176.trans (congrArg some (by kernel_rfl))
 f129:=Tryz.func177.trans (congrArg some (by kernel_rfl))
 f189:=Tryz.func204.trans (congrArg some (by kernel_rfl))
 f215:=Tryz.func194.trans (congrArg some (by kernel_rfl))
 f216:=Tryz.func230.trans (congrArg some (by kernel_rfl))
 f257:=Tryz.func195.trans (congrArg some (by kernel_rfl))
 f294:=Tryz.func224.trans (congrArg some (by kernel_rfl))
 f295:=Tryz.func225.trans (congrArg some (by kernel_rfl))
 f296:=Tryz.func226.trans (congrArg some (by kernel_rfl))
 f297:=Tryz.func227.trans (congrArg some (by kernel_rfl))
 f298:=Tryz.func228.trans (congrArg some (by kernel_rfl))
 f299:=Tryz.func229.trans (congrArg some (by kernel_rfl))
 f300:=Tryz.func231.trans (congrArg some (by kernel_rfl))
 f301:=Tryz.func232.trans (congrArg some (by kernel_rfl))
 f328:=Tryz.func244.trans (congrArg some (by kernel_rfl))
 f329:=Tryz.func220.trans (congrArg some (by kernel_rfl))
 f330:=Tryz.func221.trans (congrArg some (by kernel_rfl))
 f331:=Tryz.func245.trans (congrArg some (by kernel_rfl))
 f332:=Tryz.func246.trans (congrArg some (by kernel_rfl))
 f343:=Tryz.func248.trans (congrArg some (by kernel_rfl))
 t0:=Tryz.underlying0
 a0:=Tryz.isAgg0
 z0:=Tryz.sizeOf0
 v0:=Tryz.zeroValue0
 t3:=Tryz.underlying3
 a3:=Tryz.isAgg3
 z3:=Tryz.sizeOf3
 v3:=Tryz.zeroValue3
 t4:=Tryz.underlying4
 a4:=Tryz.isAgg4
 z4:=Tryz.sizeOf4
 v4:=Tryz.zeroValue4
 t5:=Tryz.underlying5
 a5:=Tryz.isAgg5
 z5:=Tryz.sizeOf5
 v5:=Tryz.zeroValue5
 t9:=Tryz.underlying9
 a9:=Tryz.isAgg9
 z9:=Tryz.sizeOf9
 v9:=Tryz.zeroValue9
 t28:=Tryz.underlying29
 a28:=Tryz.isAgg29
 z28:=Tryz.sizeOf29
 v28:=Tryz.zeroValue29
 t46:=Tryz.underlying50
 a46:=Tryz.isAgg50
 z46:=Tryz.sizeOf50
 v46:=Tryz.zeroValue50
 t51:=Tryz.underlying266
 a51:=Tryz.isAgg266
 z51:=Tryz.sizeOf266
 v51:=Tryz.zeroValue266
 t53:=Tryz.underlying257
 a53:=Tryz.isAgg257
 z53:=Tryz.sizeOf257
 v53:=Tryz.zeroValue257
 t131:=Tryz.underlying70
 a131:=Tryz.isAgg70
 z131:=Tryz.sizeOf70
 v131:=Tryz.zeroValue70
 t182:=Tryz.underlying276
 a182:=Tryz.isAgg276
 z182:=Tryz.sizeOf276
 v182:=Tryz.zeroValue276
 t183:=Tryz.underlying277
 a183:=Tryz.isAgg277
 z183:=Tryz.sizeOf277
 v183:=Tryz.zeroValue277
 t218:=Tryz.underlying307
 a218:=Tryz.isAgg307
 z218:=Tryz.sizeOf307
 v218:=Tryz.zeroValue307
 t222:=Tryz.underlying305
 a222:=Tryz.isAgg305
 z222:=Tryz.sizeOf305
 v222:=Tryz.zeroValue305
 t228:=Tryz.underlying330
 a228:=Tryz.isAgg330
 z228:=Tryz.sizeOf330
 v228:=Tryz.zeroValue330
 t229:=Tryz.underlying328
 a229:=Tryz.isAgg328
 z229:=Tryz.sizeOf328
 v229:=Tryz.zeroValue328 }
open Go.Sort Go.RowKit in
theorem Tryz.slices_Sort_int (blk off cap:Nat) (zs:List Int) (w:World) (hH:Holds (Value.int .i64) w blk off zs.toArray) (hblk:blk<w.heap.size) (hsz:zs.length<4611686018427387904) :
  Calls Tryz.prog 204 #[.slice (some ⟨blk,off,none⟩) zs.length cap] w fun e w' =>
   e=.returned (.tuple #[])∧∃ n os,w'=grow (putRow (Value.int .i64) (Sort.ahead w n) blk off (zs.mergeSort fun x y=>decide (x≤y)).toArray) os:=Any.slices_Sort_int Tryz.lays189 blk off cap zs w hH hblk hsz
def Tryz.lays191_ren:Go.Shelf.Ren:=⟨fun | 191=>197 | 189=>204 | 125=>120 | 257=>195 | 128=>176 | 129=>177 | 294=>224 | 295=>225 | 296=>226 | 297=>227 | 298=>228 | 299=>229 | 216=>230 | 300=>231 | 301=>232 | 328=>244 | 329=>220 | 330=>221 | 331=>245 | 332=>246 | 215=>194 | 343=>248 | n=>n,fun | 28=>29 | 0=>0 | 3=>3 | 46=>50 | 51=>266 | 53=>257 | 4=>4 | 183=>277 | 182=>276 | 131=>70 | 5=>5 | 9=>9 | 218=>307 | 222=>305 | 228=>330 | 229=>328 | n=>n,fun | n=>n⟩
theorem Tryz.lays191:Go.Proofs.Lays.n191 Tryz.prog Tryz.lays191_ren:={
 mixed:=by kernel_rfl
 f125:=Tryz.func120.trans (congrArg some (by kernel_rfl))
 f128:=Tryz.func176.trans (congrArg some (by kernel_rfl))
 f129:=Tryz.func177.trans (congrArg some (by kernel_rfl))
 f189:=Tryz.func204.trans (congrArg some (by kernel_rfl))
 f191:=Tryz.func197.trans (congrArg some (by kernel_rfl))
 f215:=Tryz.func194.trans (congrArg some (by kernel_rfl))
 f216:=Tryz.func230.trans (congrArg some (by kernel_rfl))
 f257:=Tryz.func195.trans (congrArg some (by kernel_rfl))
 f294:=Tryz.func224.trans (congrArg some (by kernel_rfl))
 f295:=Tryz.func225.trans (congrArg some (by kernel_rfl))
 f296:=Tryz.func226.trans (congrArg some (by kernel_rfl))
 f297:=Tryz.func227.trans (congrArg some (by kernel_rfl))
 f298:=Tryz.func228.trans (congrArg some (by kernel_rfl))
 f299:=Tryz.func229.trans (congrArg some (by kernel_rfl))
 f300:=Tryz.func231.trans (congrArg some (by kernel_rfl))
 f301:=Tryz.func232.trans (congrArg some (by kernel_rfl))
 f328:=Tryz.func244.trans (congrArg some (by kernel_rfl))
 f329:=Tryz.func220.trans (congrArg some (by kernel_rfl))
 f330:=Tryz.func221.trans (congrArg some (by kernel_rfl))
 f331:=Tryz.func245.trans (congrArg some (by kernel_rfl))
 f332:=Tryz.func246.trans (congrArg some (by kernel_rfl))
 f343:=Tryz.func248.trans (congrArg some (by kernel_rfl))
 t0:=Tryz.underlying0
 a0:=Tryz.isAgg0
 z0:=Tryz.sizeOf0
 v0:=Tryz.zeroValue0
 t3:=Tryz.underlying3
 a3:=Tryz.isAgg3
 z3:=Tryz.sizeOf3
 v3:=Tryz.zeroValue3
 t4:=Tryz.underlying4
 a4:=Tryz.isAgg4
 z4:=Tryz.sizeOf4
 v4:=Tryz.zeroValue4
 t5:=Tryz.underlying5
 a5:=Tryz.isAgg5
 z5:=Tryz.sizeOf5
 v5:=Tryz.zeroValue5
 t9:=Tryz.underlying9
 a9:=Tryz.isAgg9
 z9:=Tryz.sizeOf9
 v9:=Tryz.zeroValue9
 t28:=Tryz.underlying29
 a28:=Tryz.isAgg29
 z28:=Tryz.sizeOf29
 v28:=Tryz.zeroValue29
 t46:=Tryz.underlying50
 a46:=Tryz.isAgg50
 z46:=Tryz.sizeOf50
 v46:=Tryz.zeroValue50
 t51:=Tryz.underlying266
 a51:=Tryz.isAgg266
 z51:=Tryz.sizeOf266
 v51:=Tryz.zeroValue266
 t53:=Tryz.underlying257
 a53:=Tryz.isAgg257
 z53:=Tryz.sizeOf257
 v53:=Tryz.zeroValue257
 t131:=Tryz.underlying70
 a131:=Tryz.isAgg70
 z131:=Tryz.sizeOf70
 v131:=Tryz.zeroValue70
 t182:=Tryz.underlying276
 a182:=Tryz.isAgg276
 z182:=Tryz.sizeOf276
 v182:=Tryz.zeroValue276
 t183:=Tryz.underlying277
 a183:=Tryz.isAgg277
 z183:=Tryz.sizeOf277
 v183:=Tryz.zeroValue277
 t218:=Tryz.underlying307
 a218:=Tryz.isAgg307
 z218:=Tryz.sizeOf307
 v218:=Tryz.zeroValue307
 t222:=Tryz.underlying305
 a222:=Tryz.isAgg305
 z222:=Tryz.sizeOf305
 v222:=Tryz.zeroValue305
 t228:=Tryz.underlying330
 a228:=Tryz.isAgg330
 z228:=Tryz.sizeOf330
 v228:=Tryz.zeroValue330
 t229:=Tryz.underlying328
 a229:=Tryz.isAgg328
 z229:=Tryz.sizeOf328
 v229:=Tryz.zeroValue328 }
open Go.Sort Go.RowKit in
theorem Tryz.sort_Ints (blk off cap:Nat) (zs:List Int) (w:World) (hH:Holds (Value.int .i64) w blk off zs.toArray) (hblk:blk<w.heap.size) (hsz:zs.length<4611686018427387904) :
  Calls Tryz.prog 197 #[.slice (some ⟨blk,off,none⟩) zs.length cap] w fun e w' =>
   e=.returned (.tuple #[])∧∃ n os,w'=grow (putRow (Value.int .i64) (Sort.ahead w n) blk off (zs.mergeSort fun x y=>decide (x≤y)).toArray) os:=Any.sort_Ints Tryz.lays191 blk off cap zs w hH hblk hsz
def Tryz.laysNm237_ren:Go.Shelf.Ren:=⟨fun | 37=>194 | n=>n,fun | 3=>3 | 4=>4 | n=>n,fun | n=>n⟩
theorem Tryz.laysNm237:Go.Proofs.Lays2.n37 Tryz.prog Tryz.laysNm237_ren:={
 mixed:=by kernel_rfl
 f37:=Tryz.func194.trans (congrArg some (by kernel_rfl))
 t3:=Tryz.underlying3
 a3:=Tryz.isAgg3
 z3:=Tryz.sizeOf3
 v3:=Tryz.zeroValue3
 t4:=Tryz.underlying4
 a4:=Tryz.isAgg4
 z4:=Tryz.sizeOf4
 v4:=Tryz.zeroValue4 }
open Go.RowKit Go.Lib in
theorem Tryz.cmp_isNaN_int2 (x:Int) (w:World) :
  Calls Tryz.prog 194 #[.int .i64 x] w fun e w'=>e=.returned (.bool false)∧w'=w:=Any.cmp_isNaN_int2 Tryz.laysNm237 x w
def Tryz.laysNm231_ren:Go.Shelf.Ren:=⟨fun | 31=>230 | 37=>194 | n=>n,fun | 3=>3 | 4=>4 | n=>n,fun | n=>n⟩
theorem Tryz.laysNm231:Go.Proofs.Lays2.n31 Tryz.prog Tryz.laysNm231_ren:={
 mixed:=by kernel_rfl
 f31:=Tryz.func230.trans (congrArg some (by kernel_rfl))
 f37:=Tryz.func194.trans (congrArg some (by kernel_rfl))
 t3:=Tryz.underlying3
 a3:=Tryz.isAgg3
 z3:=Tryz.sizeOf3
 v3:=Tryz.zeroValue3
 t4:=Tryz.underlying4
 a4:=Tryz.isAgg4
 z4:=Tryz.sizeOf4
 v4:=Tryz.zeroValue4 }
open Go.RowKit Go.Lib in
theorem Tryz.cmp_Less_int2 (x y:Int) (w:World) :
  Calls Tryz.prog 230 #[.int .i64 x,.int .i64 y] w fun e w'=>e=.returned (.bool (decide (x<y)))∧w'=w:=Any.cmp_Less_int2 Tryz.laysNm231 x y w
open Go.RowKit Go.Sort in
theorem Tryz.slices_Sort_int_none (p:Option Addr) (cap:Nat) (w:World) :
  Calls Tryz.prog 204 #[.slice p 0 cap] w fun e w'=>e=.returned (.tuple #[])∧w'=w:=Any.slices_Sort_int_none Tryz.lays189 p cap w
open Go.RowKit Go.Sort in
theorem Tryz.sort_Ints_none (p:Option Addr) (cap:Nat) (w:World) :
  Calls Tryz.prog 197 #[.slice p 0 cap] w fun e w'=>e=.returned (.tuple #[])∧w'=w:=Any.sort_Ints_none Tryz.lays191 p cap w
end Go.Proofs
/- The document's Newer. -/
namespace Go.Proofs.YtjefgmeejhakbaaGreatDoor
open Go.RowKit Go.Sort
variable {P:Tail}
def newsR (k t:Int) (L:List (Int × Int × Int)):List Int:=(L.filter fun x=>decide (x.1=k)&&decide (t<x.2.1)).map fun x=>x.2.1
theorem newsR_snoc (k t:Int) (L:List (Int × Int × Int)) (x:Int × Int × Int):newsR k t (L++[x])=newsR k t L++(if x.1=k∧t<x.2.1 then [x.2.1] else []):=by
 unfold newsR
 rw [List.filter_append,List.map_append]
 congr 1
 by_cases h:x.1=k∧t<x.2.1
 ·simp [h]
 ·rw [if_neg h]
  have:(decide (x.1=k)&&decide (t<x.2.1))=false:=by simpa using h
  simp [this]
theorem newsR_length (k t:Int) (L:List (Int × Int × Int)):(newsR k t L).length≤L.length:=by
 unfold newsR
 rw [List.length_map]
 exact List.length_filter_le _ _
theorem sort_rising (base:Nat) (tv:Value) (l:List Int) (w:World) (ho:w.ownsRow base 3 1 tv l.length (intsV l)) (hr:l.Pairwise (·≤·)) (hn:l.length≤1000000) :
  Calls Tryz.prog 197 #[tv] w fun e w'=>e=.returned (.tuple #[])∧w'.ownsRow base 3 1 tv l.length (intsV l)∧w.grownBy w' tv.ownBlock:=by
 rcases ho.2 with ⟨rfl,hz⟩ | ⟨g,cap,cur,rfl,hb,hg,h1,h2,h3,h4⟩
 ·refine (Tryz.sort_Ints_none none 0 w).mono ?_
  rintro e w' ⟨rfl,rfl⟩
  exact⟨rfl,ho,⟨rfl,rfl,rfl,Nat.le_refl _,fun _ _ _=>rfl⟩⟩
 ·refine (Tryz.sort_Ints g 0 cap l w (holds_of_blockI hg (by simpa [intsV] using h4)) (Array.getElem?_eq_some_iff.1 hg).1 (by omega)).mono ?_
  rintro e w' ⟨rfl,n,os,rfl⟩
  have e1:(l.mergeSort fun x y=>decide (x≤y))=l:=List.mergeSort_of_pairwise (hr.imp (fun h=>by simpa using h))
  rw [e1]
  exact⟨rfl,ownsRow_sortedI rfl hb hg h1 h2 (by simpa using h3),grownBy_sortedI _⟩
set_option maxRecDepth 100000 in
set_option maxHeartbeats 2000000 in
theorem refNewer_walk (base R g cap:Nat) (k t last:Int) (L:List (Int × Int × Int)) (w:World) (hk:inB k 0 9=true) (hlen:L.length≤100000) (hr:(newsR k t L).Pairwise (·≤·)) (h:Ref P w base R last (.slice (some ⟨g,0,none⟩) L.length cap) L) :
  Calls Tryz.prog 136 #[.pointer (some ⟨R,0,none⟩),.int .i64 k,.int .i64 t] w fun e w'=>∃ tv,e=.returned (.tuple #[tv,.int .i64 0]) ∧
   w'.ownsRow w.heap.size 3 1 tv (newsR k t L).length (intsV (newsR k t L))∧Below w.heap.size w w':=by
 obtain⟨i0,hi0,hz0,hz1,hz2⟩:=info_parts info3
 have hc:=h.c0
 have hR:=h.lt
 obtain⟨hgl,hcells⟩:g<w.heap.size∧∀ j k a v,L[j]?=some (k,a,v)→w.cell? ⟨g,j*3,none⟩=some (.int .i64 k)∧w.cell? ⟨g,j*3+1,none⟩=some (.int .i64 a)∧w.cell? ⟨g,j*3+2,none⟩=some (.int .i64 v):=by
  rcases h.slice with ⟨e,_⟩ | ⟨g',cp,e,h1,h2,h3⟩
  ·cases e
  ·cases e;exact⟨h1,h3⟩
 have HC:=hid hcells
 have HR:=hid hr
 clear hcells hr h
 go_enter Tryz.func136,Tryz.ntmps136
 go_wp2_with (go_at_call 54;refine (in_any _ _ _ _).mono ?_;rintro e w' ⟨rfl,hw1⟩;rw [hw1];clear hw1 w')
 go_loopw [8,19] (fun tv i wr=>∃ j:Nat,j≤L.length∧i=.int .i64 j∧wr.ownsRow w.heap.size 3 1 tv (newsR k t (L.take j)).length (intsV (newsR k t (L.take j)))∧Below w.heap.size w wr) (fun _ i _=>L.length-(intOf i).toNat)
 case atStart=>exact⟨0,Nat.zero_le _,rfl,by simpa [newsR,intsV] using World.ownsRow_nil w w.heap.size 3 1,Below.refl _ _⟩
 case round =>
  obtain⟨j,hj,rfl,hown,hB⟩:=hrel
  have hBs:=hB.size
  by_cases hlt:j<L.length
  ·obtain⟨⟨k',a,v⟩,hav⟩:∃ p,L[j]?=some p:=⟨L[j],List.getElem?_eq_getElem hlt⟩
   obtain⟨d1,d2,d3⟩:=HC.out j k' a v hav
   have e1:=(hB.cell (p:=⟨g,j*3,none⟩) hgl).trans d1
   have e2:=(hB.cell (p:=⟨g,j*3+1,none⟩) hgl).trans d2
   have e3:=(hB.cell (p:=⟨g,j*3+2,none⟩) hgl).trans d3
   have hst:Hid (newsR k t (L.take (j+1))=newsR k t (L.take j)++(if k'=k∧t<a then [a] else [])):=by
    show _=_
    rw [List.take_add_one,hav]
    exact newsR_snoc _ _ _ _
   have hj0:(0:Int)≤(j:Int):=by omega
   have hj1:(j:Int)<(L.length:Int):=by omega
   have hnl:(newsR k t (L.take j)).length≤100000:=by
    have h1:=newsR_length k t (L.take j)
    have h2:=List.length_take_le j L
    omega
   have HO:=hid hown
   clear hav d1 d2 d3 hown
   by_cases q1:k'=k
   ·have q1':(k'==k)=true:=by simpa using q1
    have Q1:=hid q1
    clear q1
    by_cases q2:t<a
    ·go_wp2_with (at_builtin;refine wpList_append_lies _ rfl _ _ _ rfl w.heap.size 3 i0 _ 1 8 Tryz.underlying29 hi0 hz0 hz1 hz2 rfl (by omega) u8 _ _ rfl ((HO.out.alloc _).alloc _) ⟨wr.heap.size+1,0,none⟩ 1 1 [.int .i64 a] rfl rfl (World.news_of_block (cs:=#[.int .i64 a]) (t:=3) (fr:=(0,0)) (by have:=heap_alloc_new (wr.alloc (.cells #[.int .i64 k',.int .i64 a,.int .i64 v] 235)) (.cells #[.int .i64 a] 3);simpa using this)) (by simp [Value.oneCell']) (by omega) (by unfold maxLen;omega) (by omega) (by simp;omega) (wr.heap.size+1+1) (by simp) ?_;intro g' cap' w2 ho hgrow hat hlt2)
     go_roundw
     case rel =>
      refine⟨j+1,by omega,by go_num,?_,?_⟩
      ·rw [hst.out,if_pos ⟨Q1.out,q2⟩,List.length_append]
       have:intsV (newsR k t (L.take j)++[a])=intsV (newsR k t (L.take j))++[.int .i64 a]:=by simp [intsV]
       rw [this]
       exact ho
      ·exact hB.trans (((((Below.refl _ wr).alloc (Nat.le_refl _) _).alloc (by simp) _).mono hBs).grown hgrow (by simp;omega) (fun k e=>(HO.out.lt k e).1))
     case measure=>simp [intOf];omega
    ·have Q2:=hid q2
     go_wp2
     go_roundw
     case rel =>
      refine⟨j+1,by omega,by go_num,?_,hB.alloc (by omega) _⟩
      rw [hst.out,if_neg (fun h=>Q2.out h.2),List.append_nil];exact HO.out.alloc _
     case measure=>simp [intOf];omega
   ·have q1':(k'==k)=false:=by simpa using q1
    have Q1:=hid q1
    clear q1
    go_wp2
    go_roundw
    case rel =>
     refine⟨j+1,by omega,by go_num,?_,hB.alloc (by omega) _⟩
     rw [hst.out,if_neg (fun h=>Q1.out h.1),List.append_nil];exact HO.out.alloc _
    case measure=>simp [intOf];omega
  ·have e:L.take j=L:=List.take_of_length_le (by omega)
   rw [e] at hown
   have HO:=hid hown
   have hnl:(newsR k t L).length≤100000:=by have:=newsR_length k t L;omega
   clear e hown
   go_wp2_with fail
   refine (sort_rising w.heap.size u8 _ wr HO.out HR.out (by omega)).mono ?_
   rintro e w1 ⟨rfl,ho1,hg1⟩
   have HO1:=hid ho1
   have hBw:=hid (hB.grown hg1 hBs (fun k e=>(HO.out.lt k e).1))
   clear ho1 hg1
   go_wp2
   go_ret2
   exact⟨_,rfl,HO1.out,hBw.out⟩
set_option maxRecDepth 100000 in
set_option maxHeartbeats 2000000 in
theorem refNewer_nil (base R:Nat) (k t last:Int) (w:World) (hk:inB k 0 9=true) (h:Ref P w base R last (.slice none 0 0) []) :
  Calls Tryz.prog 136 #[.pointer (some ⟨R,0,none⟩),.int .i64 k,.int .i64 t] w fun e w'=>e=.returned (.tuple #[.slice none 0 0,.int .i64 0])∧w'=w:=by
 have hc:=h.c0
 have hR:=h.lt
 go_enter Tryz.func136,Tryz.ntmps136
 go_wp2_with (go_at_call 54;refine (in_any _ _ _ _).mono ?_;rintro e w' ⟨rfl,hw1⟩;rw [hw1];clear hw1 w')
 go_loop [8,19] (fun tv i=>tv=.slice none 0 0∧i=.int .i64 0) (fun _ _=>0)
 case atStart=>exact⟨rfl,rfl⟩
 case round =>
  obtain⟨rfl,rfl⟩:=hrel
  go_wp2_with (go_at_call 197;refine (Tryz.sort_Ints_none none 0 _).mono ?_;rintro e w' ⟨rfl,hw1⟩;rw [hw1];clear hw1 w')
  go_ret2
  exact⟨rfl,rfl⟩
theorem refNewer_any (base R:Nat) (k t last:Int) (lv:Value) (L:List (Int × Int × Int)) (w:World) (hk:inB k 0 9=true) (hlen:L.length≤100000) (hr:(newsR k t L).Pairwise (·≤·)) (h:Ref P w base R last lv L) :
  Calls Tryz.prog 136 #[.pointer (some ⟨R,0,none⟩),.int .i64 k,.int .i64 t] w fun e w'=>∃ tv,e=.returned (.tuple #[tv,.int .i64 0]) ∧
   w'.ownsRow w.heap.size 3 1 tv (newsR k t L).length (intsV (newsR k t L))∧Below w.heap.size w w':=by
 rcases h.slice with ⟨rfl,rfl⟩ | ⟨g,cap,rfl,_⟩
 ·refine (refNewer_nil base R k t last w hk h).mono ?_
  rintro e w' ⟨rfl,rfl⟩
  exact⟨_,rfl,by simpa [newsR,intsV] using World.ownsRow_nil w' w'.heap.size 3 1,Below.refl _ _⟩
 ·exact refNewer_walk base R g cap k t last L w hk hlen hr h
end Go.Proofs.YtjefgmeejhakbaaGreatDoor
