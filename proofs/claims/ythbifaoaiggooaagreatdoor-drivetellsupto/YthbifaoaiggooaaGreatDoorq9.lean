import Derived.Test.YthbifaoaiggooaaGreatDoorq8
import Derived.Laws.BitsAllLaws
set_option maxHeartbeats 6400000
set_option maxRecDepth 100000
namespace Go.Proofs.YthbifaoaiggooaaGreatDoor
open Go.RowKit
open Go.WideMaps (KeyLaw)
def bF(i:It):List Value:=[.int .i64 i.1,.int .i64 i.2]
def mW(s:bB):List Value:=[.int .i64 s.1,.int .i64 s.2.1,.int .i64 s.2.2]
def tu(p:Wy):Value:= .agg #[.int .i64 p.1,.bool p.2.1,.int .i64 p.2.2]
def qE(s:bB):Value:= .agg #[.int .i64 s.1,.int .i64 s.2.1,.int .i64 s.2.2]
theorem VS(a b:Wy)(h:tu a=tu b):a=b:=by
 obtain⟨a1,a2,a3⟩:=a;obtain⟨b1,b2,b3⟩:=b;simp[tu]at h;obtain⟨h1,h2,h3⟩:=h;subst h2;simp;omega
theorem VT(a b:bB)(h:qE a=qE b):a=b:=by
 obtain⟨a1,a2,a3⟩:=a;obtain⟨b1,b2,b3⟩:=b;simp[qE]at h;simp;omega
theorem VU:laidOutB Tryz.prog=true:=by kernel_rfl
theorem adK:(match Tryz.prog.underlying 162 with|some (.array _ _)|some (.struct _)=>true|_=>false)=true:=by rw[Tryz.underlying162 ]
theorem adL:(match Tryz.prog.underlying 164 with|some (.array _ _)|some (.struct _)=>true|_=>false)=true:=by rw[Tryz.underlying164 ]
theorem VX:KeyLaw Tryz.prog 162:=deep_law_laid VU (m:=3) (by omega) (wX (by kernel_rfl)) (by kernel_rfl) adK
theorem VY:KeyLaw Tryz.prog 164:=deep_law_laid VU (m:=3) (by omega) (wX (by kernel_rfl)) (by kernel_rfl) adL
theorem adM:Tryz.prog.keyType 162=true:=by kernel_rfl
theorem adN:Tryz.prog.keyType 164=true:=by kernel_rfl
theorem VZ:Tryz.prog.cellsOf 162=3:=by kernel_rfl
theorem V3:Tryz.prog.cellsOf 164=3:=by kernel_rfl
theorem adO:Tryz.prog.cellsOf 157=2:=by kernel_rfl
theorem adP:Tryz.prog.cellsOf 121=2:=by kernel_rfl
theorem V4:Tryz.prog.cellsOf 3=1:=by kernel_rfl
theorem adQ:Tryz.prog.cellsOf 4=1:=by kernel_rfl
theorem V5:∃m,Tryz.prog.types.size=m+2:=⟨Tryz.prog.types.size-2,by kernel_rfl⟩
theorem Hu{a:Int}(h0: -1000000<=a)(h:a<=1000000):(Lit.int .i64 a).wf=true:=by
 have h1:IntKind.i64.min<=a:=Int.le_trans (by decide) h0;have h2:a<=IntKind.i64.max:=Int.le_trans h (by decide);simp only[Lit.wf,aT h1,aT h2,Bool.and_self]
theorem V6{p:Wy}(h1:p.1<=1000)(h2:0<=p.2.2)(h3:p.2.2<=1000):∃l,keyOf Tryz.prog 162 (tu p)=some l:=by
 obtain⟨m,hm⟩:=V5;have w1:=Hu (a:=p.1) (by omega) (by omega);have w2:=Hu (a:=p.2.2) (by omega) (by omega);rw[<-JO];unfold keyOf tu;simp only[Tryz.underlying162 ];rw[au (by simp[adM,Value.formed,Tryz.underlying162,VZ]),hm];simp[Program.keyLits,Tryz.underlying162,Tryz.underlying121,Tryz.underlying3,Tryz.underlying4,VZ,adP,V4,adQ,Value.cells,w1,w2];rw[au]
 ·rfl
 ·intro i hi
  match i,hi with
  |0,_=>simp
  |1,_=>simp
theorem V7{s:bB}(h1:s.1<=1000)(h2:s.2.1<=1000)(h3:s.2.2<=1000):∃l,keyOf Tryz.prog 164 (qE s)=some l:=by
 obtain⟨m,hm⟩:=V5;have w1:=Hu (a:=s.1) (by omega) (by omega);have w2:=Hu (a:=s.2.1) (by omega) (by omega);have w3:=Hu (a:=s.2.2) (by omega) (by omega);rw[<-JO];unfold keyOf qE;simp only[Tryz.underlying164 ];rw[au (by simp[adN,Value.formed,Tryz.underlying164,V3]),hm];simp[Program.keyLits,Tryz.underlying164,Tryz.underlying157,Tryz.underlying3,V3,adO,V4,Value.cells,w1,w2,w3];rw[au]
 ·rfl
 ·intro i hi
  match i,hi with
  |0,_=>simp
  |1,_=>simp
theorem adR(w:World):(zeroValue 167).run Tryz.prog w= .ok (.int .u32 0) w:=by kernel_rfl
theorem zero_num(w:World):(zeroValue 3).run Tryz.prog w= .ok (.int .i64 0) w:=by kernel_rfl
theorem Tryz.infoIt:(Tryz.prog.info? 157).map (λi=>(i.zero,i.size,i.bytes))=some (some (.agg #[.int .i64 0,.int .i64 0]),2,16):=by kernel_rfl
theorem Tryz.infoIts:(Tryz.prog.info? 158).map (λi=>(i.zero,i.size,i.bytes))=some (some (.slice none 0 0),1,24):=by kernel_rfl
theorem Tryz.infoSpo:(Tryz.prog.info? 164).map (λi=>(i.zero,i.size,i.bytes))=some (some (.agg #[.int .i64 0,.int .i64 0,.int .i64 0]),3,24):=by kernel_rfl
theorem Tryz.infoSy:(Tryz.prog.info? 121).map (λi=>(i.zero,i.size,i.bytes))=some (some (.agg #[.bool false,.int .i64 0]),2,16):=by kernel_rfl
structure gL where
 ma:Nat
 mg:Nat
 ml:Nat
 T:Nat
 N:Nat
 rv:Value
 nv:Value
 fv:Value
 wv:Value
structure dK where
 sv:Value
 IV:Nat->Value
 ov:Value
 OL:List (List It)
inductive O5 where
 |ma
 |st
 |it (k:Nat)
 |op
 deriving DecidableEq
def zu(d:gL)(v:dK):List Value:=[.int .i64 d.T,.int .i64 d.N,d.rv,d.nv,d.fv,d.wv,v.sv,.map (some d.mg),.map (some d.ml),v.ov]
def jr(d:gL)(v:dK)(O:List bB):O5->Option Row
 | .ma=>some ⟨.slice (some ⟨d.ma,0,none⟩) 1 1,112,10,1,zu d v⟩
 | .st=>some ⟨v.sv,158,1,v.OL.length,(List.range v.OL.length).map v.IV⟩
 | .it k=>if k<v.OL.length then some ⟨v.IV k,157,2,(v.OL.getD k []).length,(v.OL.getD k []).flatMap bF⟩ else none
 | .op=>some ⟨v.ov,164,3,O.length,O.flatMap mW⟩
def xO(lk:bB->Nat)(s:bB):Option Value:=if lk s=0 then none else some (.int .u32 (lk s))
structure aB(w0 w:World)(d:gL)(v:dK)(G:Wy->Option Value)(ng:Nat)(st:LS):Prop where
 own:aA w w0.heap.size (jr d v st.O)
 vO:MapAt Tryz.prog 162 tu w d.mg ng G
 vP:MapAt Tryz.prog 164 qE w d.ml st.c (xO st.lk)
 ne:d.mg≠d.ml
 ge:w0.heap.size<=d.mg/\w0.heap.size<=d.ml
 since:Below w0.heap.size w0 w
structure kM(w0:World)(d:gL)(R:List Ru)(Nu:List Bool)(Fi:List (List Bool)):Prop where
 rules:aG w0 w0.heap.size d.rv R
 nR:kg w0 d.nv Nu
 rJ:oN w0 d.fv Fi
 KS:Nu.length=d.N
 A7:Fi.length=d.N
 Cn:∀n,n<d.N->(Fi.getD n []).length=d.T
 hT:d.T<=8
 hN:1<=d.N/\d.N<=12
 hR:R.length<=40
 r8:∀q,q<R.length->(R.getD q (0,[])).2.length<=8
 sym:∀r,r<=R.length->∀s∈aR R r,(s.1=true->0<=s.2/\s.2<(d.T:Int))/\(s.1=false->0<=s.2/\s.2<(d.N:Int))
theorem kM.Co{w0:World}{d:gL}{R:List Ru}{Nu:List Bool}{Fi:List (List Bool)}(E:kM w0 d R Nu Fi):∀r,r<=R.length->(aR R r).length<=8:=λr hr=>by
 unfold aR;split
 ·simp
 ·exact E.r8 r (by omega)
def qF(d:gL)(v:dK)(b:Nat):Prop:=b=d.mg\/b=d.ml\/b=d.ma\/v.sv.ownBlock=some b\/v.ov.ownBlock=some b\/∃k,k<v.OL.length/\(v.IV k).ownBlock=some b
structure aO(d:gL)(v v':dK)(w w':World):Prop where
 kept:Kept (qF d v) w w'
 old:∀b,b<w.heap.size->qF d v' b->qF d v b
section
variable{d:gL}{v v' v'':dK}{w0 w w' w'':World}{G:Wy->Option Value}{ng:Nat}{st:LS}
theorem aO.refl(d:gL)(v:dK)(w:World):aO d v v w w:=⟨Kept.refl _ _,λ_ _ h=>h⟩
theorem aO.trans(h:aO d v v' w w')(k:aO d v' v'' w' w''):aO d v v'' w w'':=
 ⟨⟨k.kept.os.trans h.kept.os,k.kept.tape.trans h.kept.tape,k.kept.output.trans h.kept.output,aZ h.kept.size k.kept.size,
    λb hb hK=>(k.kept.block b (jg hb h.kept.size) (λe=>hK (h.old b hb e))).trans (h.kept.block b hb hK)⟩,
   λb hb hK=>h.old b hb (k.old b (jg hb h.kept.size) hK)⟩
theorem aO.dI(hb:Below w.heap.size w w'):aO d v v w w':=⟨Kept.dI hb,λ_ _ h=>h⟩
theorem aO.alloc(h:aO d v v' w w')(o:Obj):aO d v v' w (w'.alloc o):=h.trans (aO.dI ((ai _ _).alloc (ah _) o))
theorem aO.drew(h:aO d v v' w w'):aO d v v' w w'.drew:=h.trans (aO.dI ((ai _ _).drew))
theorem aO.far(h:aO d v v' w w'){b:Nat}(hb:b<w.heap.size)(hn:¬qF d v b):w'.heap[b]?=w.heap[b]?/\¬qF d v' b/\b<w'.heap.size:=
 ⟨h.kept.block b hb hn,λe=>hn (h.old b hb e),jg hb h.kept.size⟩
theorem aB.off(h:aB w0 w d v G ng st){b:Nat}(hb:b=d.mg\/b=d.ml){i:O5}{r:Row}(hr:jr d v st.O i=some r):r.v.ownBlock≠some b:=by
 obtain⟨e1,c1,h1⟩:=h.vO.isMap;obtain⟨e2,c2,h2⟩:=h.vP.isMap;rcases hb with rfl|rfl
 ·exact Gy (h.own.own i r hr) h1
 ·exact Gy (h.own.own i r hr) h2
theorem O6{k:Nat}(hk:k<v.OL.length){O:List bB}:jr d v O (.it k)=some ⟨v.IV k,157,2,(v.OL.getD k []).length,(v.OL.getD k []).flatMap bF⟩:=by simp[jr,hk]
theorem aB.kc(h:aB w0 w d v G ng st){b:Nat}(hb:qF d v b):w0.heap.size<=b/\b<w.heap.size:=by
 rcases hb with rfl|rfl|rfl|hb|hb|⟨k,hk,hb⟩
 ·exact⟨h.ge.1,h.vO.lt⟩
 ·exact⟨h.ge.2,h.vP.lt⟩
 ·exact h.own.lt (i:= .ma) rfl rfl
 ·exact h.own.lt (i:= .st) rfl hb
 ·exact h.own.lt (i:= .op) rfl hb
 ·exact h.own.lt (i:= .it k) (O6 hk) hb
theorem V8{i:O5}{r:Row}{g:Nat}{O:List bB}(hr:jr d v O i=some r)(hg:r.v.ownBlock=some g):qF d v g:=by
 cases i with
 |ma=>
  simp only[jr,bM]at hr;subst hr;simp only[Value.ownBlock,bM]at hg;exact .inr (.inr (.inl hg.symm))
 |st=>simp only[jr,bM]at hr;subst hr;exact .inr (.inr (.inr (.inl hg)))
 |op=>simp only[jr,bM]at hr;subst hr;exact .inr (.inr (.inr (.inr (.inl hg))))
 |it k=>
  by_cases hk:k<v.OL.length
  ·rw[O6 hk,bM]at hr;subst hr
   exact .inr (.inr (.inr (.inr (.inr ⟨k,hk,hg⟩))))
  ·simp[jr,hk]at hr
theorem aB.far(h:aB w0 w d v G ng st)(hs:Below w0.heap.size w w')(hh:∀b,b<w.heap.size->qF d v b->w'.heap[b]?=w.heap[b]?):aB w0 w' d v G ng st:=by
 have k:∀b,qF d v b->w'.heap[b]?=w.heap[b]?:=λb hb=>hh b (h.kc hb).2 hb;exact⟨h.own.heap λi r g hr hg=>k g (V8 hr hg),h.vO.kept (k _ (.inl rfl)),h.vP.kept (k _ (.inr (.inl rfl))),h.ne,h.ge,h.since.trans hs⟩
theorem aB.le(h:aB w0 w d v G ng st):w0.heap.size<=w.heap.size:=h.since.size
theorem aB.below(h:aB w0 w d v G ng st)(hb:Below w.heap.size w w'):aB w0 w' d v G ng st:=h.far (hb.mono h.le) λb hlt _=>hb.block b hlt
theorem aB.alloc(h:aB w0 w d v G ng st)(o:Obj):aB w0 (w.alloc o) d v G ng st:=h.below ((ai _ _).alloc (ah _) o)
theorem aB.drew(h:aB w0 w d v G ng st):aB w0 w.drew d v G ng st:=h.below ((ai _ _).drew)
theorem aB.rC(h:aB w0 w d v G ng st)(g:aO d v v' w w'):Below w0.heap.size w w':=g.kept.below (λ_ hb=>(h.kc hb).1) h.le
theorem aB.cell(h:aB w0 w d v G ng st){i:Nat}{x:Value}(hx:(zu d v)[i]?=some x)(hi:i<10):w.cell? ⟨d.ma,i,none⟩=some x/\w.frozen? ⟨d.ma,i,none⟩=false:=by
 have:=h.own.cell (i:= .ma) (g:=d.ma) (n:=1) (cap:=1) (e:=112) (size:=10) (xs:=zu d v) rfl i (by omega);exact⟨this.1.trans hx,this.2⟩
theorem aB.El(h:aB w0 w d v G ng st):d.ma<w.heap.size:=(h.kc (.inr (.inr (.inl rfl)))).2
theorem Hw{L:List It}{i k:Nat}(hi:i<L.length)(hk:k<2):(L.flatMap bF)[i*2+k]?=(bF (L.getD i (0,0)))[k]?:=by
 induction L generalizing i with
 |nil=>simp at hi
 |cons a L ih=>
  rw[gV];have hl:(bF a).length=2:=rfl;cases i with
  |zero=>rw[vo (by omega)];simp
  |succ i=>
   rw[o9 (by omega),hl,show (i+1)*2+k-2=i*2+k by omega];rw[ih (by simpa using hi)];simp[List.getD]
theorem Hy(L:List It):(L.flatMap bF).length=L.length*2:=by
 induction L with
 |nil=>rfl
 |cons a L ih=>rw[gV,aS,ih];simp[bF];omega
theorem adS{L:List bB}{i k:Nat}(hi:i<L.length)(hk:k<3):(L.flatMap mW)[i*3+k]?=(mW (L.getD i (0,0,0)))[k]?:=by
 induction L generalizing i with
 |nil=>simp at hi
 |cons a L ih=>
  rw[gV];have hl:(mW a).length=3:=rfl;cases i with
  |zero=>rw[vo (by omega)];simp
  |succ i=>
   rw[o9 (by omega),hl,show (i+1)*3+k-3=i*3+k by omega];rw[ih (by simpa using hi)];simp[List.getD]
theorem O7(L:List bB):(L.flatMap mW).length=L.length*3:=by
 induction L with
 |nil=>rfl
 |cons a L ih=>rw[gV,aS,ih];simp[mW];omega
theorem Em{base n:Nat}{x:Value}{L:List It}(h:w.ownsRow base 157 2 x n (L.flatMap bF))(hn:n=L.length):kr w w.heap.size x L:=by
 subst hn;obtain⟨a,c,hv⟩:=cO h;refine⟨⟨a,c,hv⟩,λk hk=> ?_⟩;obtain⟨g,cap,rfl,_,hlt⟩:=h.form (by omega);refine⟨g,0,cap,rfl,hlt,?_,?_⟩
 ·rw[eO,h.cellAt (k*2) (by omega)]
  have:=Hw (k:=0) hk (by omega);simpa [bF] using this
 ·rw[eO,h.cellAt (k*2+1) (by omega)]
  have:=Hw (k:=1) hk (by omega);simpa [bF] using this
theorem aB.items(h:aB w0 w d v G ng st){k:Nat}(hk:k<v.OL.length):kr w w.heap.size (v.IV k) (v.OL.getD k []):=Em (h.own.own (.it k) _ (O6 hk)) rfl
theorem aB.states(h:aB w0 w d v G ng st):∃a c,v.sv= .slice a v.OL.length c:=h.own.slice (i:= .st) rfl
theorem aB.state(h:aB w0 w d v G ng st){k:Nat}(hk:k<v.OL.length):∃g c,v.sv= .slice (some ⟨g,0,none⟩) v.OL.length c/\g<w.heap.size/\w.cell? ⟨g,k,none⟩=some (v.IV k):=by
 obtain⟨g,c,hv,_,hlt⟩:=h.own.form (i:= .st) rfl (by simp only;omega);simp only at hv;refine⟨g,c,hv,hlt,?_⟩;have ho:=h.own.own .st _ rfl;simp only[hv]at ho;rw[ho.cellAt k (by omega)];simp[hk]
theorem aB.rules(h:aB w0 w d v G ng st){R:List Ru}{Nu:List Bool}{Fi:List (List Bool)}(E:kM w0 d R Nu Fi):aG w w0.heap.size d.rv R:=E.rules.below h.since
theorem aB.adT(h:aB w0 w d v G ng st){G':Wy->Option Value}{n':Nat}(hg:w.grownBy w' (some d.mg))(hm:MapAt Tryz.prog 162 tu w' d.mg n' G'):aB w0 w' d v G' n' st/\aO d v v w w':=by
 have hk:aO d v v w w':=⟨⟨hg.os,hg.tape,hg.output,hg.size,λb hb hK=>hg.block b hb λe=>hK (.inl (by simpa using e))⟩,λ_ _ hK=>hK⟩;refine⟨⟨h.own.heap λi r g hr hg'=>hg.block g (h.own.lt hr hg').2 λe=>h.off (.inl rfl) hr (hg'.trans e),hm,h.vP.kept (hg.block _ h.vP.lt λe=>h.ne (by simpa using e.symm)),h.ne,h.ge,h.since.trans (h.rC hk)⟩,hk⟩
theorem aB.O8(h:aB w0 w d v G ng st){lk':bB->Nat}{c':Nat}(hg:w.grownBy w' (some d.ml))(hm:MapAt Tryz.prog 164 qE w' d.ml c' (xO lk')):aB w0 w' d v G ng ⟨lk',st.O,c'⟩/\aO d v v w w':=by
 have hk:aO d v v w w':=⟨⟨hg.os,hg.tape,hg.output,hg.size,λb hb hK=>hg.block b hb λe=>hK (.inr (.inl (by simpa using e)))⟩,λ_ _ hK=>hK⟩;refine⟨⟨h.own.heap λi r g hr hg'=>hg.block g (h.own.lt hr hg').2 λe=>h.off (.inr rfl) hr (hg'.trans e),h.vO.kept (hg.block _ h.vO.lt λe=>h.ne (by simpa using e)),hm,h.ne,h.ge,h.since.trans (h.rC hk)⟩,hk⟩
theorem adU{O O':List bB}{aL:Value}:upd (upd (jr d v O) .op ⟨aL,164,3,O'.length,O'.flatMap mW⟩) .ma ⟨.slice (some ⟨d.ma,0,none⟩) 1 1,112,10,1,(zu d v).set 9 aL⟩=jr d { v with ov:=aL } O':=by
 funext i
 cases i<;>simp[upd,jr,zu]
theorem aB.D8(h:aB w0 w d v G ng st){aL:Value}{O':List bB}(hg:w.grownBy w' v.ov.ownBlock)(ho:w'.ownsRow w0.heap.size 164 3 aL O'.length (O'.flatMap mW))(hat:∀g,aL.ownBlock=some g->v.ov.ownBlock=some g\/g=w.heap.size):
 aB w0 (w'.setCell ⟨d.ma,9,none⟩ aL) d { v with ov:=aL } G ng { st with O:=O' }/\aO d v { v with ov:=aL } w (w'.setCell ⟨d.ma,9,none⟩ aL):=by
 have h1:=h.own.turn (i:= .op) (r':=⟨aL,164,3,O'.length,O'.flatMap mW⟩) rfl hg ho hat;have h2:=h1.store (i:= .ma) (g:=d.ma) (n:=1) (cap:=1) (e:=112) (size:=10) (xs:=zu d v) (by simp[upd,jr]) 9 aL;rw[adU]at h2;have far:∀b,b<w.heap.size->b≠d.ma->some b≠v.ov.ownBlock->(w'.setCell ⟨d.ma,9,none⟩ aL).heap[b]?=w.heap[b]?:=λb hb hne hr=>(gm _ _ _ _ hne).trans (hg.block b hb hr)
 have m:∀b,(b=d.mg\/b=d.ml)->b<w.heap.size->(w'.setCell ⟨d.ma,9,none⟩ aL).heap[b]?=w.heap[b]?:=λb hb hlt=>
  far b hlt (λe=>h.off hb (i:= .ma) rfl (by rw[e];rfl)) λe=>h.off hb (i:= .op) rfl e.symm
 have hk:aO d v { v with ov:=aL } w (w'.setCell ⟨d.ma,9,none⟩ aL):=by
  refine⟨⟨hg.os,hg.tape,hg.output,by have:=hg.size;simpa [World.setCell] using this,λb hb hK=>far b hb (λe=>hK (.inr (.inr (.inl e)))) λe=>hK (.inr (.inr (.inr (.inr (.inl e.symm)))))⟩,λb hb hK=> ?_⟩;rcases hK with hK|hK|hK|hK|hK|hK
  ·exact .inl hK
  ·exact .inr (.inl hK)
  ·exact .inr (.inr (.inl hK))
  ·exact .inr (.inr (.inr (.inl hK)))
  ·rcases hat b hK with e|e
   ·exact .inr (.inr (.inr (.inr (.inl e))))
   ·omega
  ·exact .inr (.inr (.inr (.inr (.inr hK))))
 exact⟨⟨h2,h.vO.kept (m _ (.inl rfl) h.vO.lt),h.vP.kept (m _ (.inr rfl) h.vP.lt),h.ne,h.ge,h.since.trans (h.rC hk)⟩,hk⟩
theorem aB.pop(h:aB w0 w d v G ng st){O:List bB}{p:bB}(hO:st.O=O++[p]){g cap:Nat}(hv:v.ov= .slice (some ⟨g,0,none⟩) (O.length+1) cap):
 aB w0 (w.setCell ⟨d.ma,9,none⟩ (.slice (some ⟨g,0,none⟩) O.length cap)) d { v with ov:= .slice (some ⟨g,0,none⟩) O.length cap } G ng { st with O:=O }/\
  aO d v { v with ov:= .slice (some ⟨g,0,none⟩) O.length cap } w (w.setCell ⟨d.ma,9,none⟩ (.slice (some ⟨g,0,none⟩) O.length cap)):=by
 have ho:=h.own.own .op _ rfl;simp only[hv,hO]at ho
 have ho':w.ownsRow w0.heap.size 164 3 (.slice (some ⟨g,0,none⟩) O.length cap) O.length (O.flatMap mW):=by
  refine⟨O7 _,?_⟩;rcases ho.2 with⟨e,_⟩|⟨g',cap',cur,e,h2,h3,h4,h5,h6,h7⟩
  ·cases e
  ·injection e with e1 e2 e3
   injection e1 with e1;injection e1 with e1;subst e1;subst e3;simp only[aS,List.length_cons,List.length_nil]at h4;refine .inr ⟨g,cap,cur,rfl,h2,h3,by omega,h5,h6,?_⟩;rw[qQ]at h7;have h9:=congrArg (List.take (O.length*3)) h7;rw[List.take_take,aS,List.length_cons,List.length_nil,wU (by omega),<-O7,BL]at h9;rw[<-O7];exact h9
 exact h.D8 (World.grownBy.refl w _) ho' (λb hb=> .inl (by rw[hv];exact hb))
def rM(v:dK)(cv:Value)(k:Nat):Value:=if k=v.OL.length then cv else v.IV k
theorem adV{O:List bB}{dW cv:Value}{C:List It}:upd (upd (upd (jr d v O) (.it v.OL.length) ⟨cv,157,2,C.length,C.flatMap bF⟩) .st ⟨dW,158,1,v.OL.length+1,(List.range v.OL.length).map v.IV++[cv]⟩) .ma ⟨.slice (some ⟨d.ma,0,none⟩) 1 1,112,10,1,(zu d v).set 6 dW⟩=
 jr d { v with sv:=dW,IV:=rM v cv,OL:=v.OL++[C] } O:=by
 funext i
 cases i with
 |ma=>simp[upd,jr,zu]
 |op=>simp[upd,jr]
 |st=>
  simp only[upd,jr];rw[aj (by simp),au trivial]
  congr 2
  ·simp
  ·rw[aS,List.length_cons,List.length_nil,pF,fD]
   congr 1
   ·refine yH λk hk=> ?_
    have:=jC.1 hk;simp[rM,show k≠v.OL.length by omega]
   ·simp[rM]
 |it k=>
  simp only[upd,jr,aS,List.length_cons,List.length_nil];rw[aj (by simp),aj (by simp)];by_cases e:k=v.OL.length
  ·subst e
   rw[au rfl,au (by omega)];simp[rM,List.getD]
  ·rw[aj (by simpa using e)]
   by_cases hk:k<v.OL.length
   ·rw[au hk,au (by omega)]
    simp[rM,e,List.getD,List.getElem?_append_left hk]
   ·rw[aj hk,aj (by omega)]
theorem aB.adW{ws:World}(h:aB w0 ws d v G ng st)(hb:Below ws.heap.size ws w){cv:Value}{C:List It}(hC:w.ownsRow ws.heap.size 157 2 cv C.length (C.flatMap bF)){dW:Value}(hg:w.grownBy w' v.sv.ownBlock)
 (ho:w'.ownsRow w0.heap.size 158 1 dW (v.OL.length+1) ((List.range v.OL.length).map v.IV++[cv])) (hat:∀g,dW.ownBlock=some g->v.sv.ownBlock=some g\/g=w.heap.size):
 aB w0 (w'.setCell ⟨d.ma,6,none⟩ dW) d { v with sv:=dW,IV:=rM v cv,OL:=v.OL++[C] } G ng st/\aO d v { v with sv:=dW,IV:=rM v cv,OL:=v.OL++[C] } ws (w'.setCell ⟨d.ma,6,none⟩ dW):=by
 have hM:=h.below hb;have hlt:∀b,qF d v b->b<ws.heap.size:=λb hb=>(h.kc hb).2
 have o1:aA w w0.heap.size (upd (jr d v st.O) (.it v.OL.length) ⟨cv,157,2,C.length,C.flatMap bF⟩):=hM.own.put (lq hC h.le) (λj a _ ha=>hM.own.own j a ha) (λj a _ ha g h1 h2=>by
  have:=hlt g (V8 ha h1);have:=(hC.lt g h2).1
  omega)
 have o2:=o1.turn (i:= .st) (r:=⟨v.sv,158,1,v.OL.length,(List.range v.OL.length).map v.IV⟩) (r':=⟨dW,158,1,v.OL.length+1,(List.range v.OL.length).map v.IV++[cv]⟩) (by simp[upd,jr]) hg ho hat;have o3:=o2.store (i:= .ma) (g:=d.ma) (n:=1) (cap:=1) (e:=112) (size:=10) (xs:=zu d v) (by simp[upd,jr]) 6 dW;rw[adV]at o3;have far:∀b,b<ws.heap.size->b≠d.ma->some b≠v.sv.ownBlock->(w'.setCell ⟨d.ma,6,none⟩ dW).heap[b]?=ws.heap[b]?:=λb hbl hne hr=>((gm _ _ _ _ hne).trans (hg.block b (jg hbl hb.size) hr)).trans (hb.block b hbl)
 have m:∀b,(b=d.mg\/b=d.ml)->b<ws.heap.size->(w'.setCell ⟨d.ma,6,none⟩ dW).heap[b]?=ws.heap[b]?:=λb hb' hlt=>
  far b hlt (λe=>h.off hb' (i:= .ma) rfl (by rw[e];rfl)) λe=>h.off hb' (i:= .st) rfl e.symm
 have hk:aO d v { v with sv:=dW,IV:=rM v cv,OL:=v.OL++[C] } ws (w'.setCell ⟨d.ma,6,none⟩ dW):=by
  refine⟨⟨hg.os.trans hb.os,hg.tape.trans hb.tape,hg.output.trans hb.output,by have:=hg.size;have:=hb.size;simp[World.setCell];omega,λb hbl hK=>far b hbl (λe=>hK (.inr (.inr (.inl e)))) λe=>hK (.inr (.inr (.inr (.inl e.symm))))⟩,λb hbl hK=> ?_⟩;rcases hK with hK|hK|hK|hK|hK|⟨k,hk,hK⟩
  ·exact .inl hK
  ·exact .inr (.inl hK)
  ·exact .inr (.inr (.inl hK))
  ·rcases hat b hK with e|e
   ·exact .inr (.inr (.inr (.inl e)))
   ·have:=hb.size;omega
  ·exact .inr (.inr (.inr (.inr (.inl hK))))
  ·simp only[rM]at hK
   simp only[aS,List.length_cons,List.length_nil]at hk;split at hK
   ·have:=(hC.lt b hK).1;omega
   ·exact .inr (.inr (.inr (.inr (.inr ⟨k,by omega,hK⟩))))
 exact⟨⟨o3,h.vO.kept (m _ (.inl rfl) h.vO.lt),h.vP.kept (m _ (.inr rfl) h.vP.lt),h.ne,h.ge,h.since.trans (h.rC hk)⟩,hk⟩
theorem aB.KT(h:aB w0 w d v G ng st){s:bB}(h1:s.1<=1000)(h2:s.2.1<=1000)(h3:s.2.2<=1000)(hc:st.c<=10000000):(Instr.lookup 108 (.map (some d.ml)) (qE s) false).run Tryz.prog w= .ok (.int .u32 (st.lk s)) w:=by
 obtain⟨l,hl⟩:=V7 h1 h2 h3;have:=Gw h.vP false (by unfold maxLen;omega) VY Tryz.underlying108 (adR w) VT hl;rw[this];by_cases hi:st.lk s=0
 ·simp[xO,hi]
 ·simp[xO,hi]
theorem aB.V9(h:aB w0 w d v G ng st){p:Wy}(h1:p.1<=1000)(h2:0<=p.2.2)(h3:p.2.2<=1000)(hc:ng<=10000000)(c:Bool):(Instr.lookup 107 (.map (some d.mg)) (tu p) c).run Tryz.prog w= .ok (if c then .tuple #[(G p).getD (.int .i64 0),.bool (G p).isSome] else (G p).getD (.int .i64 0)) w:=by
 obtain⟨l,hl⟩:=V6 h1 h2 h3;exact Gw h.vO c (by unfold maxLen;omega) VX Tryz.underlying107 (zero_num w) VS hl
theorem aB.jv(h:aB w0 w d v G ng st){p:Wy}(h1:p.1<=1000)(h2:0<=p.2.2)(h3:p.2.2<=1000)(x:Value):
 ∃w',(Instr.mapUpdate 107 (.map (some d.mg)) (tu p) x).run Tryz.prog w= .ok () w'/\aB w0 w' d v (gX G p x) (ng+1) st/\aO d v v w w'/\w'.heap.size=w.heap.size:=by
 obtain⟨l,hl⟩:=V6 h1 h2 h3;obtain⟨w',e1,e2,e3,e4⟩:=Om h.vO VX Tryz.underlying107 VS hl x;obtain⟨a,b⟩:=h.adT e3 e2;exact⟨w',e1,a,b,e4⟩
theorem adX{lk:bB->Nat}{s:bB}{m:Nat}(hm:m≠0):gX (xO lk) s (.int .u32 m)=xO λt=>if t=s then m else lk t:=by
 funext t
 by_cases e:t=s
 ·subst e;simp[gX,xO,hm]
 ·simp[gX,xO,e]
theorem aB.adY(h:aB w0 w d v G ng st){s:bB}(h1:s.1<=1000)(h2:s.2.1<=1000)(h3:s.2.2<=1000){m:Nat}(hm:m≠0):
 ∃w',(Instr.mapUpdate 108 (.map (some d.ml)) (qE s) (.int .u32 m)).run Tryz.prog w= .ok () w'/\aB w0 w' d v G ng ⟨λt=>if t=s then m else st.lk t,st.O,st.c+1⟩/\aO d v v w w'/\w'.heap.size=w.heap.size:=by
 obtain⟨l,hl⟩:=V7 h1 h2 h3;obtain⟨w',e1,e2,e3,e4⟩:=Om h.vP VY Tryz.underlying108 VT hl (.int .u32 m);rw[adX hm]at e2;obtain⟨a,b⟩:=h.O8 e3 e2;exact⟨w',e1,a,b,e4⟩
end
end Go.Proofs.YthbifaoaiggooaaGreatDoor
namespace Go.Proofs.YthbifaoaiggooaaGreatDoor
open Go.RowKit
theorem aB.auto{w0 w:World}{d:gL}{v:dK}{G:Wy->Option Value}{ng:Nat}{st:LS}{R:List Ru}{Nu:List Bool}{Fi:List (List Bool)}(h:aB w0 w d v G ng st)(E:kM w0 d R Nu Fi):jT w w0.heap.size d.ma d.T d.N d.rv R:=
 ⟨(h.cell (i:=0) rfl (by omega)).1,(h.cell (i:=1) rfl (by omega)).1,(h.cell (i:=2) rfl (by omega)).1,h.rules E,h.le,h.El⟩
theorem jT.boxed{w:World}{lim ab T N:Nat}{rv:Value}{R:List Ru}(h:jT w lim ab T N rv R)(o:Obj):jT (w.alloc o) lim ab T N rv R:=h.below ((ai _ _).alloc (ah _) o) h.le h.lt
theorem jT.later{w w':World}{lim ab T N:Nat}{rv:Value}{R:List Ru}(h:jT w lim ab T N rv R)(hb:Below w.heap.size w w'):jT w' lim ab T N rv R:=h.below hb h.le h.lt
theorem KU{w:World}{lim ab T N:Nat}{rv:Value}{R:List Ru}(hA:jT w lim ab T N rv R):
 Calls Tryz.prog 86 #[.pointer (some ⟨ab,0,none⟩)] w λe w'=>e= .returned (.int .i64 R.length)/\w'=w:=by
 obtain⟨ra,rc,aI⟩:=hA.rules.1;subst aI;have a2:=hA.r;clear hA
 go_enter Tryz.func86,Tryz.ntmps86
 go_wp2_with fail
 go_ret;exact⟨rfl,rfl⟩
theorem O9{w:World}{lim ab T N r:Nat}{rv:Value}{R:List Ru}(hA:jT w lim ab T N rv R)(hr:r<=R.length):
 Calls Tryz.prog 151 #[.pointer (some ⟨ab,0,none⟩),.int .i64 r] w λe w'=> ∃la lc,e= .returned (.slice la (aR R r).length lc)/\dh w' (.slice la (aR R r).length lc) (aR R r)/\Below w.heap.size w w':=by
 have Wh:=KU hA;obtain⟨ra,rc,aI⟩:=hA.rules.1;subst aI;have a2:=hA.r;by_cases he:r=R.length
 ·subst he
  have e1:((R.length:Int)==(R.length:Int))=true:=by simp
  have HE:Hid (aR R R.length=[(false,0)]):=by show aR R R.length=_;simp[aR]
  clear hA hr
  go_enter Tryz.func151,Tryz.ntmps151
  go_wp2_with (go_at_call 86;refine Wh.mono ?_;rintro e w1 ⟨rfl,rfl⟩)
  go_ret;rw[HE.out];refine⟨some ⟨w1.heap.size,0,none⟩,1,rfl,?_,(ai _ _).alloc (ah _) _⟩;refine⟨⟨_,_,rfl,ah _⟩,λj hj=> ?_⟩;have hj0:j=0:=by simpa using hj
  subst hj0;exact⟨w1.heap.size,0,1,rfl,by simp[go_sem],by simp[go_sem]⟩
 ·have hlt:r<R.length:=by omega
  obtain⟨b,o,rc',qa,qc,hv,hb,k1,k2,hsy⟩:=hA.rules.mR hlt;cases hv;have e1:((r:Int)==(R.length:Int))=false:=by simpa using λh=>he (by omega)
  have i0:(0:Int)<=(r:Int):=aF _;have i1:(r:Int)<(R.length:Int):=by omega
  have k2':w.cell? ⟨b,o+r*2+1,none⟩=some (.slice qa (R.getD r (0,[])).2.length qc):=by rw[kF];exact k2
  have hre:aR R r=(R.getD r (0,[])).2:=by rw[aR,aj he]
  obtain⟨Rt,oF⟩:=af ((R.getD r (0,[])).2);rw[oF]at k2' hsy hre;rw[hre];have HE:Hid (dh w (.slice qa Rt.length qc) Rt):=hsy;clear hA hr k2 hsy he oF hre
  go_enter Tryz.func151,Tryz.ntmps151
  go_wp2_with (go_at_call 86;refine Wh.mono ?_;rintro e w1 ⟨rfl,rfl⟩)
  go_ret;exact⟨qa,qc,rfl,HE.out,ai _ _⟩
theorem KV{w:World}{lim ab T N a b:Nat}{rv:Value}{R:List Ru}{s:Sy}(hA:jT w lim ab T N rv R)(hr:a<=R.length)(hs:(aR R a)[b]?=some s):
 Calls Tryz.prog 121 #[.pointer (some ⟨ab,0,none⟩),.agg #[.int .i64 a,.int .i64 b]] w λe w'=>e= .returned (.tuple #[.agg #[.bool s.1,.int .i64 s.2],.bool true])/\Below w.heap.size w w':=by
 obtain⟨hlt,hget⟩:=qw.1 hs;have hgd:(aR R a).getD b (false,0)=s:=by simp[List.getD,hs]
 have rg:=O9 ((hA.boxed (.cells #[.int .i64 a,.int .i64 b] 157)).boxed (.cells #[.bool false,.int .i64 0] 121)) hr;obtain⟨Rt,oF⟩:=af (aR R a);rw[oF]at rg hlt hgd;have HG:Hid (Rt.getD b (false,0)=s):=hgd;have HL:Hid (b<Rt.length):=hlt;clear hA hget hs oF hgd;obtain⟨s1,s2⟩:=s
 go_enter Tryz.func121,Tryz.ntmps121
 go_wp2_with
  (go_at_call 151;refine rg.mono ?_;rintro e w2 ⟨la,lc,rfl,hsy,hB2⟩
   obtain⟨g,o,c,hv,c1,c2⟩:=hsy.2 b HL.out;cases hv;rw[HG.out]at c1 c2;simp only at c1 c2;have b0:w2.cell? ⟨w.heap.size,0,none⟩=some (.int .i64 a):=(hB2.cell (by simp;omega)).trans (by simp[go_sem]);have b1:w2.cell? ⟨w.heap.size,1,none⟩=some (.int .i64 b):=(hB2.cell (by simp;omega)).trans (by simp[go_sem]);have r0:w2.cell? ⟨w.heap.size+1,0,none⟩=some (.bool false):=(hB2.cell (by simp)).trans (by simp[go_sem]);have r1:w2.cell? ⟨w.heap.size+1,1,none⟩=some (.int .i64 0):=(hB2.cell (by simp)).trans (by simp[go_sem]);have rf:∀o,w2.frozen? ⟨w.heap.size+1,o,none⟩=false:=λo=>(hB2.frozen (by simp)).trans (by simp[go_sem]);have e1:((b:Int)==(Rt.length:Int))=false:=by have:=HL.out;simp;omega
   have i0:(0:Int)<=(b:Int):=aF _;have i1:(b:Int)<(Rt.length:Int):=by have:=HL.out;omega
   have HX:Hid (Below w.heap.size w w2):=((((ai _ _).alloc (ah _) _).alloc (by simp) _).trans (hB2.mono (by simp;omega)))
   clear hB2 hsy rg)
 refine aH (v:= .tuple #[.agg #[.bool s1,.int .i64 s2],.bool true]) (by simp[results,Tryz.results121,go_sem,r0,r1]) rfl ⟨rfl,?_⟩;exact(HX.out.setCell (by simp) _).setCell (by simp) _
theorem KW{w:World}{lim ab T N a b:Nat}{rv:Value}{R:List Ru}(hA:jT w lim ab T N rv R)(hr:a<=R.length)(hb:b=(aR R a).length):
 Calls Tryz.prog 121 #[.pointer (some ⟨ab,0,none⟩),.agg #[.int .i64 a,.int .i64 b]] w λe w'=>e= .returned (.tuple #[.agg #[.bool false,.int .i64 0],.bool false])/\Below w.heap.size w w':=by
 have rg:=O9 ((hA.boxed (.cells #[.int .i64 a,.int .i64 b] 157)).boxed (.cells #[.bool false,.int .i64 0] 121)) hr;rw[<-hb]at rg;clear hA hb
 go_enter Tryz.func121,Tryz.ntmps121
 go_wp2_with
  (go_at_call 151;refine rg.mono ?_;rintro e w2 ⟨la,lc,rfl,_,hB2⟩
   have b1:w2.cell? ⟨w.heap.size,1,none⟩=some (.int .i64 b):=(hB2.cell (by simp;omega)).trans (by simp[go_sem]);have r0:w2.cell? ⟨w.heap.size+1,0,none⟩=some (.bool false):=(hB2.cell (by simp)).trans (by simp[go_sem]);have r1:w2.cell? ⟨w.heap.size+1,1,none⟩=some (.int .i64 0):=(hB2.cell (by simp)).trans (by simp[go_sem]);have rf:∀o,w2.frozen? ⟨w.heap.size+1,o,none⟩=false:=λo=>(hB2.frozen (by simp)).trans (by simp[go_sem]);have HX:Hid (Below w.heap.size w w2):=((((ai _ _).alloc (ah _) _).alloc (by simp) _).trans (hB2.mono (by simp;omega)))
   clear hB2 rg)
 refine aH (v:= .tuple #[.agg #[.bool false,.int .i64 0],.bool false]) (by simp[results,Tryz.results121,go_sem,r0,r1]) rfl ⟨rfl,?_⟩;exact(HX.out.setCell (by simp) _).setCell (by simp) _
theorem Wi{w:World}{a b:Nat}(hb:b<=1000):
 Calls Tryz.prog 122 #[.agg #[.int .i64 a,.int .i64 b]] w λe w'=>e= .returned (.agg #[.int .i64 a,.int .i64 ((b:Int)+1)])/\Below w.heap.size w w':=by
 go_enter Tryz.func122,Tryz.ntmps122
 go_wp2_with fail
 refine aH (v:= .agg #[.int .i64 a,.int .i64 ((b:Int)+1)]) (by simp[results,Tryz.results122,go_sem]) rfl ⟨rfl,?_⟩;exact((ai _ _).alloc (ah _) _).alloc (by simp) _
def fw(R:List Ru)(m:Int)(k:Nat):List It:=((List.range k).filter λn=>decide ((R.getD n (0,[])).1=m)).map λn=>(n,0)
theorem Wj{R:List Ru}{m:Int}{k:Nat}(h:(R.getD k (0,[])).1=m):fw R m (k+1)=fw R m k++[(k,0)]:=by
 unfold fw;rw[pF,Dt,fD];have e:([k].filter λn=>decide ((R.getD n (0,[])).1=m))=[k]:=by rw[vk,au (by simpa using h)];rfl
 rw[e];rfl
theorem adZ{R:List Ru}{m:Int}{k:Nat}(h:(R.getD k (0,[])).1≠m):fw R m (k+1)=fw R m k:=by
 unfold fw;rw[pF,Dt,fD];have e:([k].filter λn=>decide ((R.getD n (0,[])).1=m))=[]:=by rw[vk,aj (by simpa using h)];rfl
 rw[e];simp
theorem Pb(R:List Ru)(m:Int)(k:Nat):(fw R m k).length<=k:=by
 unfold fw;rw[cK];refine aZ (vv _ _) ?_;simp
theorem Pd{w:World}{lim ab T N:Nat}{rv:Value}{R:List Ru}{m:Int}(hA:jT w lim ab T N rv R)(hR:R.length<=40):
 Calls Tryz.prog 124 #[.pointer (some ⟨ab,0,none⟩),.int .i64 m] w λe w'=> ∃ov,e= .returned ov/\w'.ownsRow w.heap.size 157 2 ov (fw R m R.length).length ((fw R m R.length).flatMap bF)/\Below w.heap.size w w'/\(fw R m R.length=[]->ov= .slice none 0 0):=by
 obtain⟨ra,rc,aI⟩:=hA.rules.1;subst aI;have a2:=hA.r;have HA:Hid (jT w lim ab T N (.slice ra R.length rc) R):=hA;clear hA
 go_enter Tryz.func124,Tryz.ntmps124
 go_wp2_with fail
 clear a2
 go_loopw [5,14] (λs5 s14 wr=> ∃(k:Nat) (ov:Value),ov=s5/\s14= .int .i64 k/\k<=R.length/\wr.ownsRow w.heap.size 157 2 ov (fw R m k).length ((fw R m k).flatMap bF)/\Below w.heap.size w wr/\(fw R m k=[]->ov= .slice none 0 0)) (λ_ s _=>R.length-(intOf s).toNat)
 case atStart=>exact⟨0,_,rfl,rfl,aP _,ji w w.heap.size 157 2,ai _ _,λ_=>rfl⟩
 case round=>
  obtain⟨k,ov,rfl,rfl,hk,hO,hB,Wl⟩:=hrel;have Hz:Hid (fw R m k=[]->ov= .slice none 0 0):=Wl;clear Wl;have HB:Hid (Below w.heap.size w wr):=hB;have HO:Hid (wr.ownsRow w.heap.size 157 2 ov (fw R m k).length ((fw R m k).flatMap bF)):=hO;by_cases hlt:k<R.length
  ·obtain⟨b,o,rc',qa,qc,hv,hb,k1,k2,_⟩:=(HA.out.later hB).rules.mR hlt
   cases hv;have hle:=HA.out.le;have hsz:=hB.size;have hll:=Pb R m k;obtain⟨l,hl⟩:=af ((R.getD k (0,[])).1);obtain⟨q,hq⟩:=af ((R.getD k (0,[])).2.length);rw[hl]at k1;rw[hq]at k2;have HL:Hid ((R.getD k (0,[])).1=l):=hl;have i0:(0:Int)<=(k:Int):=aF _;have i1:(k:Int)<(R.length:Int):=by omega
   obtain⟨W1,hW1⟩:=af (wr.alloc (.cells #[.int .i64 l,.slice qa q qc] 96));have HB1:Hid (Below w.heap.size w W1):=by show Below _ _ _;rw[<-hW1];exact hB.alloc (by omega) _
   have zw:Hid (W1.ownsRow w.heap.size 157 2 ov (fw R m k).length ((fw R m k).flatMap bF)):=by show World.ownsRow _ _ _ _ _ _ _;rw[<-hW1];exact hO.alloc _
   clear hB hO hl hq;by_cases hm:l=m
   ·subst hm
    have e1:(l==l)=true:=by simp
    have bV:=zw.out.alloc (.cells #[.int .i64 k,.int .i64 0] 157);have ku:=jh (cs:= #[.int .i64 k,.int .i64 0]) (t:=157) (fr:=(0,0)) (heap_alloc_new W1 (.cells #[.int .i64 k,.int .i64 0] 157));have hs1:w.heap.size<=W1.heap.size:=HB1.out.size;have ad1:W1.heap.size=wr.heap.size+1:=by rw[<-hW1];simp
    rw[ad1]at ku;obtain⟨p,hp⟩:=af ((fw R l k).length);rw[hp]at bV hll;have n1:p+1<=maxLen:=by unfold maxLen;omega
    have n2:(p+1)*16<=140737488355328:=by omega
    have HP:Hid ((fw R l k).length=p):=hp;obtain⟨vQ,hi0,hz0,hz1,hz2⟩:=fK Tryz.infoIt;clear hp;have HW1:Hid (wr.alloc (.cells #[.int .i64 l,.slice qa q qc] 96)=W1):=hW1;clear hW1
    go_wp2_with
     (at_builtin
      rw[HW1.out]
      refine ow _ rfl _ _ _ rfl w.heap.size 157 vQ _ 2 16 Tryz.underlying158 hi0 hz0 hz1 hz2 rfl (by omega) ov p ((fw R l k).flatMap bF) rfl bV
       ⟨wr.heap.size+1,0,none⟩ 1 1 [.int .i64 k,.int .i64 0] rfl rfl ku (by simp[Value.oneCell']) (by omega) n1 n2 (by simp;omega) (wr.heap.size+2) (by simp;omega) ?_
      intro g6 cap6 w6 hown6 fP oL vN)
    go_roundw
    case rel=>
     have bC:Below w.heap.size w w6:=(HB1.out.alloc (by omega) _).grown fP (by simp;omega) (λj hj=>(zw.out.lt j hj).1);refine⟨k+1,_,rfl,by go_num,by omega,?_,bC,λe=>by rw[Wj HL.out]at e;simp at e⟩;rw[Wj HL.out,qQ,aS,HP.out];exact hown6
    case measure=>simp[intOf];omega
   ·have e1:(l==m)=false:=by simpa using hm
    have HN:Hid (fw R m (k+1)=fw R m k):=adZ (by rw[HL.out];exact hm);have HW1:Hid (wr.alloc (.cells #[.int .i64 l,.slice qa q qc] 96)=W1):=hW1;clear hW1
    go_wp2_with fail
    go_roundw
    case rel=>exact⟨k+1,ov,rfl,by go_num,by omega,by rw[HN.out,HW1.out];exact zw.out,by rw[HW1.out];exact HB1.out,λe=>Hz.out (by rw[<-HN.out];exact e)⟩
    case measure=>simp[intOf];omega
  ·obtain rfl:k=R.length:=by omega
   clear hB hO
   go_wp2_with fail
   go_ret;exact⟨ov,rfl,HO.out,HB.out,Hz.out⟩
theorem KX{w:World}{n:Nat}(hn:n<=8):Calls Tryz.prog 90 #[.int .i64 n] w λe w'=>e= .returned (.int .u32 ((2^n:Nat):Int))/\w'=w:=by
 match n,hn with
 |0,_|1,_|2,_|3,_|4,_|5,_|6,_|7,_|8,_=>
  go_enter Tryz.func90,Tryz.ntmps90
  go_wp2_with fail
  go_ret;exact⟨rfl,rfl⟩
theorem Wm(L:List Bool)(n:Nat):maskN L n<2^n:=Nat.lt_pow_two_of_testBit _ λi hi=>by rw[VK];simp;omega
theorem ad2(m n:Nat):decide (((m&&&2^n:Nat):Int)≠0)=m.testBit n:=by
 cases h:m.testBit n with
 |false=>
  have:m&&&2^n=0:=Nat.eq_of_testBit_eq λi=>by
   rw[Nat.testBit_and,Dy,Nat.zero_testBit];by_cases e:n=i
   ·subst e;simp[h]
   ·simp[e]
  simp[this]
 |true=>
  have:m&&&2^n≠0:=λe=>by
   have h2:(m&&&2^n).testBit n=true:=by rw[Nat.testBit_and,Dy,h];simp
   rw[e]at h2;simp at h2
  simpa using this
theorem ad3{w:World}{m n:Nat}(hm:m<4294967296)(hn:n<=8):
 Calls Tryz.prog 126 #[.int .u32 m,.int .i64 n] w λe w'=>e= .returned (.bool (m.testBit n))/\w'=w:=by
 have one:=KX (w:=w) hn;have hp:2^n<4294967296:=Nat.lt_of_le_of_lt (wV (by omega) hn) (by decide);rw[<-ad2];obtain⟨p,hp'⟩:=af (2^n);rw[hp']at one hp⊢;have hb:=u32_and_nat m p hm hp;clear hp';obtain⟨q,hq⟩:=af (m&&&p);rw[hq]at hb⊢;clear hq;by_cases h0:q=0
 ·subst h0
  go_enter Tryz.func126,Tryz.ntmps126
  go_wp2_with (go_at_call 90;refine one.mono ?_;rintro e w1 ⟨rfl,rfl⟩)
  go_ret;exact⟨rfl,rfl⟩
 ·have e1:((q:Int) !=0)=true:=by simpa using h0
  have e2:decide ((q:Int)≠0)=true:=by simpa using h0
  rw[e2]
  go_enter Tryz.func126,Tryz.ntmps126
  go_wp2_with (go_at_call 90;refine one.mono ?_;rintro e w1 ⟨rfl,rfl⟩)
  go_ret;exact⟨rfl,rfl⟩
structure Knows(w:World)(ab T N:Nat)(nv fv:Value)(Nu:List Bool)(Fi:List (List Bool)):Prop where
 c3:w.cell? ⟨ab,3,none⟩=some nv
 c4:w.cell? ⟨ab,4,none⟩=some fv
 nR:kg w nv Nu
 rJ:oN w fv Fi
 KS:Nu.length=N
 A7:Fi.length=N
 Cn:∀n,n<N->(Fi.getD n []).length=T
 hT:T<=8
theorem Knows.later{w w':World}{ab T N:Nat}{nv fv:Value}{Nu:List Bool}{Fi:List (List Bool)}(h:Knows w ab T N nv fv Nu Fi)(hb:Below w.heap.size w w'):Knows w' ab T N nv fv Nu Fi:=
 ⟨(hb.cell (aQ _ _ h.c3)).trans h.c3,(hb.cell (aQ _ _ h.c4)).trans h.c4,h.nR.same (ko hb),h.rJ.same (ko hb),h.KS,h.A7,h.Cn,h.hT⟩
theorem aB.knows{w0 w:World}{d:gL}{v:dK}{G:Wy->Option Value}{ng:Nat}{st:LS}{R:List Ru}{Nu:List Bool}{Fi:List (List Bool)}(h:aB w0 w d v G ng st)(E:kM w0 d R Nu Fi):Knows w d.ma d.T d.N d.nv d.fv Nu Fi:=
 ⟨(h.cell (i:=3) rfl (by omega)).1,(h.cell (i:=4) rfl (by omega)).1,E.nR.same (ko h.since),E.rJ.same (ko h.since),E.KS,E.A7,E.Cn,E.hT⟩
theorem ad4{w:World}{ab T N:Nat}{nv fv:Value}{Nu:List Bool}{Fi:List (List Bool)}{s:Sy}(hK:Knows w ab T N nv fv Nu Fi)(h1:s.1=true->0<=s.2/\s.2<(T:Int))(h2:s.1=false->0<=s.2/\s.2<(N:Int)):
 Calls Tryz.prog 152 #[.pointer (some ⟨ab,0,none⟩),.agg #[.bool s.1,.int .i64 s.2]] w λe w'=>e= .returned (.int .u32 (mV Fi s))/\mV Fi s<512/\Below w.heap.size w w':=by
 have hT:=hK.hT;obtain⟨b,v⟩:=s;simp only at h1 h2⊢;cases b with
 |true=>
  obtain⟨v0,v1⟩:=h1 rfl;obtain⟨n,rfl⟩:∃n:Nat,v=n:=⟨v.toNat,by omega⟩;have one:=KX (w:=w.alloc (.cells #[.bool true,.int .i64 n] 121)) (n:=n) (by omega);have HF:Hid (mV Fi (true,(n:Int))=2^n):=by show mV Fi (true,(n:Int))=_;simp[mV]
  have HL:Hid (2^n<512):=by show 2^n<512;exact Nat.lt_of_le_of_lt (wV (by omega) (show n<=8 by omega)) (by decide)
  obtain⟨p,hp⟩:=af (2^n);rw[hp]at one HF HL;clear hK h1 h2 hp
  go_enter Tryz.func152,Tryz.ntmps152
  go_wp2_with (go_at_call 90;refine one.mono ?_;rintro e w1 ⟨rfl,rfl⟩)
  go_ret;exact⟨by rw[HF.out];rfl,by rw[HF.out];exact HL.out,(ai _ _).alloc (ah _) _⟩
 |false=>
  obtain⟨v0,v1⟩:=h2 rfl;obtain⟨n,rfl⟩:∃n:Nat,v=n:=⟨v.toNat,by omega⟩;have Wn:n<N:=by omega
  have hK1:=hK.later ((ai _ _).alloc (ah _) (.cells #[.bool false,.int .i64 n] 121));obtain⟨g,o,c,rv,tC,d0,hrow⟩:=hK1.rJ.2 n (by rw[hK1.A7];omega);obtain⟨L,hL⟩:=af (Fi.getD n []);have H8:L.length=T:=by rw[<-hL];exact hK.Cn n Wn
  rw[hL]at hrow;obtain⟨ra,rc,aI⟩:=hrow.1;subst aI;subst tC;have c4:=hK1.c4;have i0:(0:Int)<=(n:Int):=aF _;have i1:(n:Int)<(Fi.length:Int):=by rw[hK.A7];omega
  have HR:Hid (kg (w.alloc (.cells #[.bool false,.int .i64 n] 121)) (.slice ra L.length rc) L):=hrow;have HF:Hid (mV Fi (false,(n:Int))=maskN L L.length):=by show mV Fi (false,(n:Int))=_;simp[mV,<-hL]
  have HT:Hid (L.length=T/\T<=8):=⟨H8,hT⟩;have hL8:L.length<=8:=by omega
  clear hK h1 h2 hK1 hrow hL H8 hT
  go_enter Tryz.func152,Tryz.ntmps152
  go_wp2_with fail
  go_big_quiet (fail)
  go_wp2_with fail
  clear c4 d0
  go_loopw [5,23] (λs5 s23 wr=> ∃k:Nat,s5= .int .u32 (maskN L k)/\s23= .int .i64 k/\k<=L.length/\wr=(w.alloc (.cells #[.bool false,.int .i64 n] 121)).drewN nq) (λ_ s _=>L.length-(intOf s).toNat)
  case atStart=>exact⟨0,rfl,rfl,aP _,rfl⟩
  case round=>
   obtain⟨k,rfl,rfl,hk,rfl⟩:=hrel;by_cases hlt:k<L.length
   ·obtain⟨g',o',c',hv',e0⟩:=HR.out.2 k hlt
    cases hv';have one:=KX (w:=(w.alloc (.cells #[.bool false,.int .i64 n] 121)).drewN nq) (n:=k) (by omega);have hml:=Wm L k;have hpk:2^k<=256:=aZ (wV (by omega) (show k<=8 by omega)) (by decide);have k0:(0:Int)<=(k:Int):=aF _;have k1:(k:Int)<(L.length:Int):=by omega
    obtain⟨x,hx⟩:=af (L.getD k false);rw[hx]at e0;have HM:Hid (maskN L (k+1)=if x then maskN L k|||2^k else maskN L k):=by show maskN L (k+1)=_;rw[maskN,hx]
    obtain⟨p,hp⟩:=af (2^k);obtain⟨q,hq⟩:=af (maskN L k);rw[hp]at one hml hpk HM;rw[hq]at hml HM⊢;have hor:=u32_or_nat q p (by omega) (by omega);clear hx hp hq;cases x with
    |true=>
     go_wp2_with (go_at_call 90;refine one.mono ?_;rintro e w1 ⟨rfl,rfl⟩)
     go_roundw
     case rel=>exact⟨k+1,by rw[HM.out];rfl,by go_num,by omega,trivial⟩
     case measure=>simp[intOf];omega
    |false=>
     go_wp2_with fail
     go_roundw
     case rel=>exact⟨k+1,by rw[HM.out];rfl,by go_num,by omega,trivial⟩
     case measure=>simp[intOf];omega
   ·obtain rfl:k=L.length:=by omega
    have HL:Hid (maskN L L.length<512):=by
     show maskN L L.length<512;have:=Wm L L.length;have:2^L.length<=256:=aZ (wV (by omega) (show L.length<=8 by omega)) (by decide);omega
    go_wp2_with fail
    go_ret;exact⟨by rw[HF.out];rfl,by rw[HF.out];exact HL.out,iR ((ai _ _).alloc (ah _) _) _⟩
theorem KY{a b:Nat}(ha:a<512)(hb:b<512):a|||b<512:=Nat.or_lt_two_pow (n:=9) ha hb
theorem ad5{Nu:List Bool}{Fi:List (List Bool)}{a k:Nat}{l:List Sy}{s:Sy}(h:l.drop k=s::l.drop (k+1)):
 lK Nu Fi a (l.drop k)=if s.1|| !Nu.getD s.2.toNat false then (a|||mV Fi s,false) else lK Nu Fi (a|||mV Fi s) (l.drop (k+1)):=by rw[h,lK]
theorem ad6{la:Option Addr}{n lc b:Nat}(hb:b+1<=n):∃A,(∀w:World,Sem.run Tryz.prog (Instr.sliceAt 94 (.slice la n lc) (some (.int .i64 ((b:Int)+1))) none none) w= .ok (.slice A (n-(b+1)) (lc-(b+1))) w)/\(lc≠b+1->A=la.map (·.add ((b+1)*2))):=by
 have h0:(0:Int)<=(b:Int)+1:=by omega
 have h1:(b:Int)+1<=(n:Int):=by omega
 refine⟨if lc=b+1 then la else la.map (·.add ((b+1)*2)),λw=> ?_,λh=>by rw[aj h]⟩
 go_simp
theorem ad7{w:World}{lim ab T N a b:Nat}{rv nv fv:Value}{R:List Ru}{Nu:List Bool}{Fi:List (List Bool)}(hA:jT w lim ab T N rv R)(hK:Knows w ab T N nv fv Nu Fi)(hr:a<=R.length)(hb:b<(aR R a).length)(h8:(aR R a).length<=8)
 (hsy:∀s∈aR R a,(s.1=true->0<=s.2/\s.2<(T:Int))/\(s.1=false->0<=s.2/\s.2<(N:Int))):
 Calls Tryz.prog 123 #[.pointer (some ⟨ab,0,none⟩),.agg #[.int .i64 a,.int .i64 b]] w λe w'=>e= .returned (.tuple #[.int .u32 (qC R Nu Fi (a,b)).1,.bool (qC R Nu Fi (a,b)).2])/\(qC R Nu Fi (a,b)).1<512/\Below w.heap.size w w':=by
 obtain⟨W1,hW1⟩:=af (w.alloc (.cells #[.int .i64 a,.int .i64 b] 157));have hB1:Below w.heap.size w W1:=by rw[<-hW1];exact(ai _ _).alloc (ah _) _
 have rg:=O9 ((hA.later hB1).later (ai _ _).drew) hr;have HK:Hid (Knows W1 ab T N nv fv Nu Fi):=hK.later hB1;have b0:W1.cell? ⟨w.heap.size,0,none⟩=some (.int .i64 a):=by rw[<-hW1];simp[go_sem]
 have b1:W1.cell? ⟨w.heap.size,1,none⟩=some (.int .i64 b):=by rw[<-hW1];simp[go_sem]
 have hsz:w.heap.size<W1.heap.size:=by rw[<-hW1];simp
 obtain⟨Rt,oF⟩:=af (aR R a);have HM:Hid (qC R Nu Fi (a,b)=lK Nu Fi 0 (Rt.drop (b+1))):=by show qC R Nu Fi (a,b)=_;rw[<-oF];rfl
 rw[oF]at rg hb h8 hsy;have HS:Hid (∀s∈Rt,(s.1=true->0<=s.2/\s.2<(T:Int))/\(s.1=false->0<=s.2/\s.2<(N:Int))):=hsy;obtain⟨m,hm⟩:=af (Rt.drop (b+1));have hml:m.length=Rt.length-(b+1):=by rw[<-hm];simp
 have Pe:Hid (∀j,j<m.length->m.getD j (false,0)=Rt.getD (b+1+j) (false,0)):=λj hj=>by
  rw[<-hm,List.getD,List.getD,JK]
 rw[hm]at HM;have HB1:Hid (Below w.heap.size w W1):=hB1;clear hA hK oF hsy hm hr hB1
 go_enter Tryz.func123,Tryz.ntmps123
 go_wp2_with fail
 clear hW1;have j0:(0:Int)<=(b:Int)+1:=by omega
 have j1:(b:Int)+1<=(Rt.length:Int):=by omega
 have hw:IntKind.i64.wrap ((b:Int)+1)=(b:Int)+1:=uE _ (by omega)
 go_cut [15,16,17] from 8 (λs15 s16 Pf wx=> ∃la lc,s15= .slice la m.length lc/\s16= .int .i64 m.length/\Pf= .int .i64 0/\dh wx (.slice la m.length lc) m/\Below W1.heap.size W1 wx)
 case first=>
  go_region_held3 (λw'=>w'.cell? ⟨w.heap.size,0,none⟩=some (.int .i64 a)/\w'.cell? ⟨w.heap.size,1,none⟩=some (.int .i64 b)) (first|(refine⟨?_,?_⟩<;>assumption)|go_keep)
   (first
    |(go_at_call 151;refine rg.mono ?_;rintro e w2 ⟨la,lc,rfl,hsy,hB2⟩
      have c0:=(hB2.cell (p:=⟨w.heap.size,0,none⟩) hsz).trans b0;have c1:=(hB2.cell (p:=⟨w.heap.size,1,none⟩) hsz).trans b1;obtain⟨_,_,hx1,hx2⟩:=hsy.1;cases hx1;obtain⟨A,hsl,Cq⟩:=ad6 (la:=la) (lc:=lc) (b:=b) (n:=Rt.length) hb;have HX:Hid (dh w2 (.slice la Rt.length lc) Rt/\Rt.length<=lc/\(lc≠b+1->A=la.map (·.add ((b+1)*2)))/\Below W1.heap.size W1 w2):=⟨hsy,hx2,Cq,(ai _ _).drew.trans hB2⟩
      clear hsy Cq hB2 hx2))
  go_wp2_with fail
  go_meet
  case rel=>
   obtain⟨hsy,hx2,Cq,hB⟩:=HX.out;refine⟨A,lc-(b+1),by rw[hml],by rw[hml],rfl,⟨⟨_,_,rfl,by omega⟩,λj hj=> ?_⟩,hB⟩;obtain⟨g,o,c,hv,e1,e2⟩:=hsy.2 (b+1+j) (by omega);cases hv;have hA':=Cq (by omega);subst hA';rw[Pe.out j hj];refine⟨g,o+(b+1)*2,lc-(b+1),rfl,?_,?_⟩
   ·rw[show o+(b+1)*2+j*2=o+(b+1+j)*2 by omega];exact e1
   ·rw[show o+(b+1)*2+j*2+1=o+(b+1+j)*2+1 by omega];exact e2
 case rest=>
  obtain⟨la,lc,rfl,rfl,rfl,hsy,mX⟩:=hcut;have l7:Hid (dh wc (.slice la m.length lc) m):=hsy;have En:Hid (Below w.heap.size w wc):=HB1.out.trans (mX.mono (by omega));have HKc:Hid (Knows wc ab T N nv fv Nu Fi):=HK.out.later mX
  have HMS:Hid (∀s∈m,(s.1=true->0<=s.2/\s.2<(T:Int))/\(s.1=false->0<=s.2/\s.2<(N:Int))):=λs hs=>by
   obtain⟨j,hj,rfl⟩:=kE hs;have h1:=Pe.out j hj;have e:m.getD j (false,0)=m[j]:=by simp[List.getD,hj]
   rw[<-e,h1];exact HS.out _ (by rw[List.getD,pq (show b+1+j<Rt.length by omega)];exact jO _)
  have hm8:m.length<=8:=by omega
  clear hsy mX rg HK b0 b1 HS Pe j0 j1 hw hml
  go_wp2_with fail
  go_loopw [4,17] (λs4 Pf wr=> ∃k acc:Nat,s4= .int .u32 acc/\Pf= .int .i64 k/\k<=m.length/\acc<512/\lK Nu Fi 0 m=lK Nu Fi acc (m.drop k)/\Below wc.heap.size wc wr) (λ_ s _=>m.length-(intOf s).toNat)
  case atStart=>exact⟨0,0,rfl,rfl,aP _,by omega,rfl,ai _ _⟩
  case round=>
   obtain⟨k,acc,rfl,rfl,hk,hacc,hbe,hB⟩:=hrel;have nT:Hid (lK Nu Fi 0 m=lK Nu Fi acc (m.drop k)):=hbe;have HB:Hid (Below wc.heap.size wc wr):=hB;have lF:Hid (Below w.heap.size w wr):=En.out.trans (hB.mono En.out.size);clear hbe;by_cases hlt:k<m.length
   ·obtain⟨g,o,c,hv,k1,k2⟩:=(l7.out.same (ko hB)).2 k hlt
    cases hv;have hmem:m.getD k (false,0)∈m:=by simp[List.getD,hlt]
    have hin:=HMS.out _ hmem;have hdrop:m.drop k=m.getD k (false,0)::m.drop (k+1):=by rw[wO hlt];simp[List.getD,hlt]
    obtain⟨s,hs⟩:=af (m.getD k (false,0));rw[hs]at k1 k2 hin hdrop;have HD:=ad5 (Nu:=Nu) (Fi:=Fi) (a:=acc) hdrop;have hKr:=(HKc.out.later hB).later ((ai _ _).alloc (ah _) (.cells #[.bool s.1,.int .i64 s.2] 121));have rJ:=ad4 hKr hin.1 hin.2;have oP:Hid (Knows (wr.alloc (.cells #[.bool s.1,.int .i64 s.2] 121)) ab T N nv fv Nu Fi):=hKr;have AB:Hid (s.1=false->0<=s.2/\s.2<(N:Int)):=hin.2;have i0:(0:Int)<=(k:Int):=aF _;have i1:(k:Int)<(m.length:Int):=by omega
    obtain⟨f,hf⟩:=af (mV Fi s);rw[hf]at rJ HD;rw[<-nT.out]at HD;have A8:Hid (lK Nu Fi 0 m=if s.1|| !Nu.getD s.2.toNat false then (acc|||f,false) else lK Nu Fi (acc|||f) (m.drop (k+1))):=HD;clear hB hmem hin hdrop hs hf hKr HD nT;obtain⟨sb,sn⟩:=s;simp only at k1 k2 rJ oP A8 AB;cases sb with
    |true=>
     go_wp2_with
      (go_at_call 152;refine rJ.mono ?_;rintro e w2 ⟨rfl,Eo,hB2⟩
       have hor:=u32_or_nat acc f (by omega) (by omega);have b0:w2.cell? ⟨wr.heap.size,0,none⟩=some (.bool true):=(hB2.cell (by simp)).trans (by simp[go_sem]);have hxl:=KY hacc Eo;have HB2:Hid (Below wr.heap.size wr w2):=((ai _ _).alloc (ah _) _).trans (hB2.mono (by simp));obtain⟨x,hx⟩:=af (acc|||f);rw[hx]at hor A8 hxl
       clear hx hB2 rJ)
     go_big_quiet (fail)
     go_wp2_with fail
     have e9:qC R Nu Fi (a,b)=(x,false):=by rw[HM.out,A8.out];simp
     rw[e9];refine aH (v:= .tuple #[.int .u32 x,.bool false]) (by simp[results,Tryz.results123,go_sem]) rfl ⟨rfl,hxl,?_⟩;exact iR (lF.out.trans (HB2.out.mono lF.out.size)) _
    |false=>
     obtain⟨n0,n1⟩:=AB.out rfl;obtain⟨n,rfl⟩:∃n:Nat,sn=n:=⟨sn.toNat,by omega⟩;obtain⟨na,nc,zx⟩:=oP.out.nR.1;subst zx;have hNl:=oP.out.KS;simp only[Int.toNat_natCast,Dq]at A8;have q1:(n:Int)<(Nu.length:Int):=by omega
     obtain⟨z,hz⟩:=af (Nu.getD n false);rw[hz]at A8;have HZ:Hid (Nu.getD n false=z):=hz;clear hz hNl
     go_wp2_with
      (go_at_call 152;refine rJ.mono ?_;rintro e w2 ⟨rfl,Eo,hB2⟩
       have hor:=u32_or_nat acc f (by omega) (by omega);have b0:w2.cell? ⟨wr.heap.size,0,none⟩=some (.bool false):=(hB2.cell (by simp)).trans (by simp[go_sem]);have b1:w2.cell? ⟨wr.heap.size,1,none⟩=some (.int .i64 n):=(hB2.cell (by simp)).trans (by simp[go_sem]);have hK2:=oP.out.later hB2;have c3:=hK2.c3;obtain⟨g',o',c',hv',d0⟩:=hK2.nR.2 n (by omega);cases hv';rw[HZ.out]at d0;have hxl:=KY hacc Eo;have HB2:Hid (Below wr.heap.size wr w2):=((ai _ _).alloc (ah _) _).trans (hB2.mono (by simp));obtain⟨x,hx⟩:=af (acc|||f);rw[hx]at hor A8 hxl
       clear hx hB2 rJ hK2)
     cases z with
     |true=>
      go_big_quiet (fail)
      go_wp2_with fail
      go_roundw
      case rel=>exact⟨k+1,x,rfl,by go_num,by omega,hxl,by rw[A8.out];simp,iR (HB.out.trans (HB2.out.mono HB.out.size)) _⟩
      case measure=>simp[intOf];omega
     |false=>
      go_big_quiet (fail)
      go_wp2_with fail
      have e9:qC R Nu Fi (a,b)=(x,false):=by rw[HM.out,A8.out];simp
      rw[e9];refine aH (v:= .tuple #[.int .u32 x,.bool false]) (by simp[results,Tryz.results123,go_sem]) rfl ⟨rfl,hxl,?_⟩;exact iR (lF.out.trans (HB2.out.mono lF.out.size)) _
   ·have e9:qC R Nu Fi (a,b)=(acc,true):=by
     rw[HM.out,nT.out,List.drop_eq_nil_of_le (by omega)];rfl
    clear hB
    go_wp2_with fail
    rw[e9];refine aH (v:= .tuple #[.int .u32 acc,.bool true]) (by simp[results,Tryz.results123,go_sem]) rfl ⟨rfl,hacc,lF.out⟩
structure Pg(s:bB):Prop where
 a:s.1<=1000
 b:s.2.1<=1000
 c:s.2.2<=1000
theorem ad8{w0 w:World}{d:gL}{v:dK}{G:Wy->Option Value}{ng:Nat}{st:LS}(h:aB w0 w d v G ng st){a b c m:Nat}(hs:Pg (a,(b,c)))(hm:m<512)(hl:st.lk (a,(b,c))<512)(hc:st.c<=10000000)(he:st.lk (a,(b,c))|||m=st.lk (a,(b,c))):
 Calls Tryz.prog 89 #[.pointer (some ⟨d.ma,0,none⟩),.agg #[.int .i64 a,.int .i64 b,.int .i64 c],.int .u32 m] w λr w'=>r= .returned (.tuple #[])/\aB w0 w' d v G ng st/\aO d v v w w':=by
 have h1:=h.alloc (.cells #[.int .i64 a,.int .i64 b,.int .i64 c] 164);have l1:=h1.drew.KT (s:=(a,(b,c))) hs.a hs.b hs.c hc;have c8:=(h1.cell (i:=8) rfl (by omega)).1;unfold qE at l1;simp only at l1;obtain⟨q,hq⟩:=af (st.lk (a,(b,c)));rw[hq]at l1 he hl;have hor:=u32_or_nat q m (by omega) (by omega);rw[he]at hor;have HH:Hid (aB w0 w d v G ng st):=h;clear h h1 he hq
 go_enter Tryz.func89,Tryz.ntmps89
 go_wp2_with fail
 go_region
 all_goals
  go_wp2_with fail
  refine aH (v:= .tuple #[]) (Af Tryz.results89 _ _ _) rfl ?_;have hb:Below w.heap.size w (w.alloc (.cells #[.int .i64 a,.int .i64 b,.int .i64 c] 164)).drew:=((ai _ _).alloc (ah _) _).drew;exact⟨rfl,HH.out.below hb,aO.dI hb⟩
theorem ad9{w0 w:World}{d:gL}{v:dK}{G:Wy->Option Value}{ng:Nat}{st:LS}(h:aB w0 w d v G ng st){a b c m:Nat}(hs:Pg (a,(b,c)))(hm:m<512)(hl:st.lk (a,(b,c))<512)(hc:st.c<=10000000)(hO:st.O.length<=10000000)(he:st.lk (a,(b,c))|||m≠st.lk (a,(b,c))):
 Calls Tryz.prog 89 #[.pointer (some ⟨d.ma,0,none⟩),.agg #[.int .i64 a,.int .i64 b,.int .i64 c],.int .u32 m] w λr w'=>r= .returned (.tuple #[])/\∃aL,aB w0 w' d { v with ov:=aL } G ng ⟨λs=>if s=(a,(b,c)) then st.lk (a,(b,c))|||m else st.lk s,st.O++[(a,(b,c))],st.c+1⟩/\aO d v { v with ov:=aL } w w':=by
 have h1:=h.alloc (.cells #[.int .i64 a,.int .i64 b,.int .i64 c] 164);have l1:=h1.drew.KT (s:=(a,(b,c))) hs.a hs.b hs.c hc;have c8:=(h1.cell (i:=8) rfl (by omega)).1;unfold qE at l1;simp only at l1;obtain⟨q,hq⟩:=af (st.lk (a,(b,c)));rw[hq]at l1 he hl⊢;obtain⟨x,hx⟩:=af (q|||m);have hor:=u32_or_nat q m (by omega) (by omega);rw[hx]at hor he⊢;have e1:((x:Int)==(q:Int))=false:=by simp;omega
 have hx0:x≠0:=λe=>by
  rw[e]at hx
  have:q=0:=by
   apply Nat.eq_of_testBit_eq;intro i;have h2:(q|||m).testBit i=false:=by rw[hx];simp
   rw[sH]at h2;simp only[Bool.or_eq_false_iff]at h2;rw[h2.1];simp
  exact he (by rw[e,this])
 obtain⟨w3,u3,h3,g3,-⟩:=h1.drew.drew.adY (s:=(a,(b,c))) hs.a hs.b hs.c hx0;unfold qE at u3;simp only at u3;have hb:Below w.heap.size w (w.alloc (.cells #[.int .i64 a,.int .i64 b,.int .i64 c] 164)).drew.drew:=(((ai _ _).alloc (ah _) _).drew).drew;have lb:¬qF d v w.heap.size:=λhk=>by have:=(h.kc hk).2;omega
 have rD:w3.heap[w.heap.size]?=some (.cells #[.int .i64 a,.int .i64 b,.int .i64 c] 164):=by
  rw[(g3.far (b:=w.heap.size) (by simp) lb).1];exact heap_alloc_new _ _
 have NA:w.heap.size+1<=w3.heap.size:=by have:=g3.kept.size;simpa using this
 have HG:Hid (aO d v v w w3):=(aO.dI hb).trans g3;have H3:Hid (aB w0 w3 d v G ng ⟨λs=>if s=(a,(b,c)) then x else st.lk s,st.O,st.c+1⟩):=h3;have b0:w3.cell? ⟨w.heap.size,0,none⟩=some (.int .i64 a):=by simp[World.cell?,rD]
 have b1:w3.cell? ⟨w.heap.size,1,none⟩=some (.int .i64 b):=by simp[World.cell?,rD]
 have b2:w3.cell? ⟨w.heap.size,2,none⟩=some (.int .i64 c):=by simp[World.cell?,rD]
 clear h h1 h3 g3 hb rD hq hx he
 go_enter Tryz.func89,Tryz.ntmps89
 go_wp2_with fail
 go_region
 all_goals
  go_wp2_with fail
  clear l1
  go_region
  go_wp2_with fail
  clear u3 c8 hor e1;have h4:=H3.out.alloc (.cells #[.int .i64 a,.int .i64 b,.int .i64 c] 164);obtain⟨oa,oc,hov⟩:=h4.own.slice (i:= .op) rfl;have oJ:v.ov= .slice oa st.O.length oc:=hov;have e9:=(H3.out.cell (i:=9) rfl (by omega)).1;have f9:=(h4.cell (i:=9) rfl (by omega)).1;rw[oJ]at e9 f9
  have eU:((w3.alloc (.cells #[.int .i64 a,.int .i64 b,.int .i64 c] 164)).drew).ownsRow w0.heap.size 164 3 (.slice oa st.O.length oc) st.O.length (st.O.flatMap mW):=by
   have:=h4.own.own .op _ rfl;simp only[oJ]at this;exact this
  have hma:d.ma<w3.heap.size:=H3.out.El;have hne:some d.ma≠(Value.slice oa st.O.length oc).ownBlock:=λe1=>h4.own.apart .ma .op _ _ (by simp) rfl rfl d.ma rfl (by show v.ov.ownBlock=_;rw[oJ];exact e1.symm);have Ph:=(h4.cell (i:=9) rfl (by omega)).2;have hn1:st.O.length+1<=maxLen:=by unfold maxLen;omega
  have hn2:(st.O.length+1)*24<=140737488355328:=by omega
  have hB3:w0.heap.size<=w3.heap.size:=H3.out.le;have H4:Hid (aB w0 (w3.alloc (.cells #[.int .i64 a,.int .i64 b,.int .i64 c] 164)).drew d v G ng ⟨λs=>if s=(a,(b,c)) then x else st.lk s,st.O,st.c+1⟩):=h4.drew;have HV:Hid (v.ov= .slice oa st.O.length oc):=oJ;obtain⟨i0,hi0,hz0,hz1,hz2⟩:=fK Tryz.infoSpo;clear h4 hov oJ H3
  go_region_law
   ((refine wZ _ (by rfl) _ _ _ (by rfl) w0.heap.size 164 i0 _ 3 24 Tryz.underlying110 hi0 hz0 hz1 hz2 rfl (by omega) (.slice oa st.O.length oc) st.O.length (st.O.flatMap mW) (by rfl) eU
      ⟨w3.heap.size,0,none⟩ 1 1 [.int .i64 a,.int .i64 b,.int .i64 c] (by rfl) (by rfl) (jh (cs:= #[.int .i64 a,.int .i64 b,.int .i64 c]) (t:=164) (fr:=(0,0)) (heap_alloc_new w3 _)) (by simp[Value.oneCell'])
      (by omega) hn1 hn2 (by simp;omega) (w3.heap.size+1) (by simp) ?_;intro g cap w5 hown5 hgrow hat hlt;have c9':=(hgrow.cell_far ⟨d.ma,9,none⟩ (by simp;omega) hne).trans f9;have f9':=(hgrow.frozen_far ⟨d.ma,9,none⟩ (by simp;omega) hne).trans Ph))
  all_goals
   go_wp2_with fail
   go_end0
   have hat':∀g',(Value.slice (some ⟨g,0,none⟩) (st.O.length+1) cap).ownBlock=some g'->v.ov.ownBlock=some g'\/g'=((w3.alloc (.cells #[.int .i64 a,.int .i64 b,.int .i64 c] 164)).drew).heap.size:=λg' hg'=>by
    obtain rfl:g=g':=by simpa [Value.ownBlock] using hg'
    rw[HV.out];rcases hat with h5|h5
    ·exact .inl h5
    ·exact .inr (by simpa using h5)
   have r:=H4.out.D8 (O':=st.O++[(a,(b,c))]) (aL:= .slice (some ⟨g,0,none⟩) (st.O.length+1) cap) (by rw[HV.out];exact hgrow) (by simpa [List.flatMap_append,mW] using hown5) hat';exact⟨rfl,_,r.1,(HG.out.trans (aO.dI (((ai _ _).alloc (ah _) _).drew))).trans r.2⟩
theorem Pj{w0 w:World}{d:gL}{v:dK}{G:Wy->Option Value}{ng:Nat}{st:LS}(h:aB w0 w d v G ng st){a b c m:Nat}(hs:Pg (a,(b,c)))(hm:m<512)(hl:st.lk (a,(b,c))<512)(hc:st.c<=10000000)(hO:st.O.length<=10000000):
 Calls Tryz.prog 89 #[.pointer (some ⟨d.ma,0,none⟩),.agg #[.int .i64 a,.int .i64 b,.int .i64 c],.int .u32 m] w λr w'=>r= .returned (.tuple #[])/\∃aL,aB w0 w' d { v with ov:=aL } G ng (ig ((a,(b,c)),m) st)/\aO d v { v with ov:=aL } w w':=by
 unfold ig;split
 ·rename_i he
  exact(ad8 h hs hm hl hc he).mono λr w' ⟨h1,h2,h3⟩=>⟨h1,v.ov,h2,h3⟩
 ·rename_i he
  exact ad9 h hs hm hl hc hO he
end Go.Proofs.YthbifaoaiggooaaGreatDoor
