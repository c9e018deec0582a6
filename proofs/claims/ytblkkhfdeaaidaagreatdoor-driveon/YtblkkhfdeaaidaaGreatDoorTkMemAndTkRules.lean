import Derived.Test.YtblkkhfdeaaidaaGreatDoorTkMathAndTkLook
import Derived.Test.YtblkkhfdeaaidaaGreatDoorLooksMathAndTabMath
import Derived.Test.YtblkkhfdeaaidaaGreatDoorTxPaAndLfp
import Derived.Deep.QuietTactic
import Derived.BigQuiet
import Derived.Deep.CutRange
set_option maxHeartbeats 3200000
set_option maxRecDepth 100000
namespace Go.Proofs.YtblkkhfdeaaidaaGreatDoor
open Go.RowKit
open Go.WideMaps (KeyLaw)
def aT(i:It):List Value:=[.int .i64 i.1,.int .i64 i.2]
def jY(s:aN):List Value:=[.int .i64 s.1,.int .i64 s.2.1,.int .i64 s.2.2]
def o7(p:Wy):Value:= .agg #[.int .i64 p.1,.bool p.2.1,.int .i64 p.2.2]
def mX(s:aN):Value:= .agg #[.int .i64 s.1,.int .i64 s.2.1,.int .i64 s.2.2]
theorem Rx(a b:Wy)(h:o7 a=o7 b):a=b:=by
 obtain⟨a1,a2,a3⟩:=a;obtain⟨b1,b2,b3⟩:=b;simp[o7]at h;obtain⟨h1,h2,h3⟩:=h;subst h2;simp;omega
theorem Ry(a b:aN)(h:mX a=mX b):a=b:=by
 obtain⟨a1,a2,a3⟩:=a;obtain⟨b1,b2,b3⟩:=b;simp[mX]at h;simp;omega
theorem Rz:laidOutB Tryz.prog=true:=by kernel_rfl
theorem aav:(match Tryz.prog.underlying 143 with|some (.array _ _)|some (.struct _)=>true|_=>false)=true:=by rw[Tryz.underlying143 ]
theorem aaw:(match Tryz.prog.underlying 145 with|some (.array _ _)|some (.struct _)=>true|_=>false)=true:=by rw[Tryz.underlying145 ]
theorem RA:KeyLaw Tryz.prog 143:=deep_law_laid Rz (m:=3) (by omega) (of_decide_eq_true (by kernel_rfl)) (by kernel_rfl) aav
theorem RB:KeyLaw Tryz.prog 145:=deep_law_laid Rz (m:=3) (by omega) (of_decide_eq_true (by kernel_rfl)) (by kernel_rfl) aaw
theorem aax:Tryz.prog.keyType 143=true:=by kernel_rfl
theorem aay:Tryz.prog.keyType 145=true:=by kernel_rfl
theorem RD:Tryz.prog.cellsOf 143=3:=by kernel_rfl
theorem RF:Tryz.prog.cellsOf 145=3:=by kernel_rfl
theorem aaz:Tryz.prog.cellsOf 138=2:=by kernel_rfl
theorem aaA:Tryz.prog.cellsOf 116=2:=by kernel_rfl
theorem RG:Tryz.prog.cellsOf 3=1:=by kernel_rfl
theorem aaB:Tryz.prog.cellsOf 4=1:=by kernel_rfl
theorem RH:∃m,Tryz.prog.types.size=m+2:=⟨Tryz.prog.types.size-2,by kernel_rfl⟩
theorem DI{a:Int}(h0: -1000000<=a)(h:a<=1000000):(Lit.int .i64 a).wf=true:=by
 have h1:IntKind.i64.min<=a:=Int.le_trans (by decide) h0;have h2:a<=IntKind.i64.max:=Int.le_trans h (by decide);simp only[Lit.wf,decide_eq_true h1,decide_eq_true h2,Bool.and_self]
theorem RJ{p:Wy}(h1:p.1<=1000)(h2:0<=p.2.2)(h3:p.2.2<=1000):∃l,keyOf Tryz.prog 143 (o7 p)=some l:=by
 obtain⟨m,hm⟩:=RH;have w1:=DI (a:=p.1) (by omega) (by omega);have w2:=DI (a:=p.2.2) (by omega) (by omega);rw[<-Option.isSome_iff_exists];unfold keyOf o7;simp only[Tryz.underlying143 ];rw[if_pos (by simp[aax,Value.formed,Tryz.underlying143,RD]),hm];simp[Program.keyLits,Tryz.underlying143,Tryz.underlying116,Tryz.underlying3,Tryz.underlying4,RD,aaA,RG,aaB,Value.cells,w1,w2];rw[if_pos]
 ·rfl
 ·intro i hi
  match i,hi with
  |0,_=>simp
  |1,_=>simp
theorem RN{s:aN}(h1:s.1<=1000)(h2:s.2.1<=1000)(h3:s.2.2<=1000):∃l,keyOf Tryz.prog 145 (mX s)=some l:=by
 obtain⟨m,hm⟩:=RH;have w1:=DI (a:=s.1) (by omega) (by omega);have w2:=DI (a:=s.2.1) (by omega) (by omega);have w3:=DI (a:=s.2.2) (by omega) (by omega);rw[<-Option.isSome_iff_exists];unfold keyOf mX;simp only[Tryz.underlying145 ];rw[if_pos (by simp[aay,Value.formed,Tryz.underlying145,RF]),hm];simp[Program.keyLits,Tryz.underlying145,Tryz.underlying138,Tryz.underlying3,RF,aaz,RG,Value.cells,w1,w2,w3];rw[if_pos]
 ·rfl
 ·intro i hi
  match i,hi with
  |0,_=>simp
  |1,_=>simp
theorem aaC(w:World):(zeroValue 147).run Tryz.prog w= .ok (.int .u32 0) w:=by kernel_rfl
theorem zero_num(w:World):(zeroValue 3).run Tryz.prog w= .ok (.int .i64 0) w:=by kernel_rfl
theorem Tryz.infoIt:(Tryz.prog.info? 138).map (fun i=>(i.zero,i.size,i.bytes))=some (some (.agg #[.int .i64 0,.int .i64 0]),2,16):=by kernel_rfl
theorem Tryz.infoIts:(Tryz.prog.info? 139).map (fun i=>(i.zero,i.size,i.bytes))=some (some (.slice none 0 0),1,24):=by kernel_rfl
theorem Tryz.infoSpo:(Tryz.prog.info? 145).map (fun i=>(i.zero,i.size,i.bytes))=some (some (.agg #[.int .i64 0,.int .i64 0,.int .i64 0]),3,24):=by kernel_rfl
theorem Tryz.infoSy:(Tryz.prog.info? 116).map (fun i=>(i.zero,i.size,i.bytes))=some (some (.agg #[.bool false,.int .i64 0]),2,16):=by kernel_rfl
structure eD where
 ma:Nat
 mg:Nat
 ml:Nat
 T:Nat
 N:Nat
 rv:Value
 nv:Value
 fv:Value
 wv:Value
structure bS where
 sv:Value
 IV:Nat->Value
 ov:Value
 OL:List (List It)
inductive KP where
 |ma
 |st
 |it (k:Nat)
 |op
 deriving DecidableEq
def vC(d:eD)(v:bS):List Value:=[.int .i64 d.T,.int .i64 d.N,d.rv,d.nv,d.fv,d.wv,v.sv,.map (some d.mg),.map (some d.ml),v.ov]
def gM(d:eD)(v:bS)(O:List aN):KP->Option Row
 | .ma=>some ⟨.slice (some ⟨d.ma,0,none⟩) 1 1,107,10,1,vC d v⟩
 | .st=>some ⟨v.sv,139,1,v.OL.length,(List.range v.OL.length).map v.IV⟩
 | .it k=>if k<v.OL.length then some ⟨v.IV k,138,2,(v.OL.getD k []).length,(v.OL.getD k []).flatMap aT⟩ else none
 | .op=>some ⟨v.ov,145,3,O.length,O.flatMap jY⟩
def tL(lk:aN->Nat)(s:aN):Option Value:=if lk s=0 then none else some (.int .u32 (lk s))
structure aj(w0 w:World)(d:eD)(v:bS)(G:Wy->Option Value)(ng:Nat)(st:LS):Prop where
 own:ah w w0.heap.size (gM d v st.O)
 rz:MapAt Tryz.prog 143 o7 w d.mg ng G
 rA:MapAt Tryz.prog 145 mX w d.ml st.c (tL st.lk)
 ne:d.mg≠d.ml
 ge:w0.heap.size<=d.mg/\w0.heap.size<=d.ml
 since:Below w0.heap.size w0 w
structure iT(w0:World)(d:eD)(R:List Ru)(Nu:List Bool)(Fi:List (List Bool)):Prop where
 rules:au w0 w0.heap.size d.rv R
 kM:kL w0 d.nv Nu
 nX:oZ w0 d.fv Fi
 Gj:Nu.length=d.N
 xu:Fi.length=d.N
 yR:∀n,n<d.N->(Fi.getD n []).length=d.T
 hT:d.T<=8
 hN:1<=d.N/\d.N<=12
 hR:R.length<=40
 r8:∀q,q<R.length->(R.getD q (0,[])).2.length<=8
 sym:∀r,r<=R.length->∀s∈aH R r,(s.1=true->0<=s.2/\s.2<(d.T:Int))/\(s.1=false->0<=s.2/\s.2<(d.N:Int))
theorem iT.yS{w0:World}{d:eD}{R:List Ru}{Nu:List Bool}{Fi:List (List Bool)}(E:iT w0 d R Nu Fi):∀r,r<=R.length->(aH R r).length<=8:=fun r hr=>by
 unfold aH;split
 ·simp
 ·exact E.r8 r (by omega)
def mY(d:eD)(v:bS)(b:Nat):Prop:=b=d.mg\/b=d.ml\/b=d.ma\/v.sv.ownBlock=some b\/v.ov.ownBlock=some b\/∃k,k<v.OL.length/\(v.IV k).ownBlock=some b
structure aF(d:eD)(v v':bS)(w w':World):Prop where
 kept:Kept (mY d v) w w'
 old:∀b,b<w.heap.size->mY d v' b->mY d v b
section
variable{d:eD}{v v' v'':bS}{w0 w w' w'':World}{G:Wy->Option Value}{ng:Nat}{st:LS}
theorem aF.refl(d:eD)(v:bS)(w:World):aF d v v w w:=⟨Kept.refl _ _,fun _ _ h=>h⟩
theorem aF.trans(h:aF d v v' w w')(k:aF d v' v'' w' w''):aF d v v'' w w'':=
 ⟨⟨k.kept.os.trans h.kept.os,k.kept.tape.trans h.kept.tape,k.kept.output.trans h.kept.output,Nat.le_trans h.kept.size k.kept.size,
    fun b hb hK=>(k.kept.block b (Nat.lt_of_lt_of_le hb h.kept.size) (fun e=>hK (h.old b hb e))).trans (h.kept.block b hb hK)⟩,
   fun b hb hK=>h.old b hb (k.old b (Nat.lt_of_lt_of_le hb h.kept.size) hK)⟩
theorem aF.bP(hb:Below w.heap.size w w'):aF d v v w w':=⟨Kept.bP hb,fun _ _ h=>h⟩
theorem aF.alloc(h:aF d v v' w w')(o:Obj):aF d v v' w (w'.alloc o):=h.trans (aF.bP ((Below.refl _ _).alloc (Nat.le_refl _) o))
theorem aF.drew(h:aF d v v' w w'):aF d v v' w w'.drew:=h.trans (aF.bP ((Below.refl _ _).drew))
theorem aF.far(h:aF d v v' w w'){b:Nat}(hb:b<w.heap.size)(hn:¬mY d v b):w'.heap[b]?=w.heap[b]?/\¬mY d v' b/\b<w'.heap.size:=
 ⟨h.kept.block b hb hn,fun e=>hn (h.old b hb e),Nat.lt_of_lt_of_le hb h.kept.size⟩
theorem aj.off(h:aj w0 w d v G ng st){b:Nat}(hb:b=d.mg\/b=d.ml){i:KP}{r:Row}(hr:gM d v st.O i=some r):r.v.ownBlock≠some b:=by
 obtain⟨e1,c1,h1⟩:=h.rz.isMap;obtain⟨e2,c2,h2⟩:=h.rA.isMap;rcases hb with rfl|rfl
 ·exact CW (h.own.own i r hr) h1
 ·exact CW (h.own.own i r hr) h2
theorem KQ{k:Nat}(hk:k<v.OL.length){O:List aN}:gM d v O (.it k)=some ⟨v.IV k,138,2,(v.OL.getD k []).length,(v.OL.getD k []).flatMap aT⟩:=by simp[gM,hk]
theorem aj.kc(h:aj w0 w d v G ng st){b:Nat}(hb:mY d v b):w0.heap.size<=b/\b<w.heap.size:=by
 rcases hb with rfl|rfl|rfl|hb|hb|⟨k,hk,hb⟩
 ·exact⟨h.ge.1,h.rz.lt⟩
 ·exact⟨h.ge.2,h.rA.lt⟩
 ·exact h.own.lt (i:= .ma) rfl rfl
 ·exact h.own.lt (i:= .st) rfl hb
 ·exact h.own.lt (i:= .op) rfl hb
 ·exact h.own.lt (i:= .it k) (KQ hk) hb
theorem RO{i:KP}{r:Row}{g:Nat}{O:List aN}(hr:gM d v O i=some r)(hg:r.v.ownBlock=some g):mY d v g:=by
 cases i with
 |ma=>
  simp only[gM,Option.some.injEq]at hr;subst hr;simp only[Value.ownBlock,Option.some.injEq]at hg;exact .inr (.inr (.inl hg.symm))
 |st=>simp only[gM,Option.some.injEq]at hr;subst hr;exact .inr (.inr (.inr (.inl hg)))
 |op=>simp only[gM,Option.some.injEq]at hr;subst hr;exact .inr (.inr (.inr (.inr (.inl hg))))
 |it k=>
  by_cases hk:k<v.OL.length
  ·rw[KQ hk,Option.some.injEq]at hr;subst hr
   exact .inr (.inr (.inr (.inr (.inr ⟨k,hk,hg⟩))))
  ·simp[gM,hk]at hr
theorem aj.far(h:aj w0 w d v G ng st)(hs:Below w0.heap.size w w')(hh:∀b,b<w.heap.size->mY d v b->w'.heap[b]?=w.heap[b]?):aj w0 w' d v G ng st:=by
 have k:∀b,mY d v b->w'.heap[b]?=w.heap[b]?:=fun b hb=>hh b (h.kc hb).2 hb;exact⟨h.own.heap fun i r g hr hg=>k g (RO hr hg),h.rz.kept (k _ (.inl rfl)),h.rA.kept (k _ (.inr (.inl rfl))),h.ne,h.ge,h.since.trans hs⟩
theorem aj.le(h:aj w0 w d v G ng st):w0.heap.size<=w.heap.size:=h.since.size
theorem aj.below(h:aj w0 w d v G ng st)(hb:Below w.heap.size w w'):aj w0 w' d v G ng st:=h.far (hb.mono h.le) fun b hlt _=>hb.block b hlt
theorem aj.alloc(h:aj w0 w d v G ng st)(o:Obj):aj w0 (w.alloc o) d v G ng st:=h.below ((Below.refl _ _).alloc (Nat.le_refl _) o)
theorem aj.drew(h:aj w0 w d v G ng st):aj w0 w.drew d v G ng st:=h.below ((Below.refl _ _).drew)
theorem aj.nR(h:aj w0 w d v G ng st)(g:aF d v v' w w'):Below w0.heap.size w w':=g.kept.below (fun _ hb=>(h.kc hb).1) h.le
theorem aj.cell(h:aj w0 w d v G ng st){i:Nat}{x:Value}(hx:(vC d v)[i]?=some x)(hi:i<10):w.cell? ⟨d.ma,i,none⟩=some x/\w.frozen? ⟨d.ma,i,none⟩=false:=by
 have:=h.own.cell (i:= .ma) (g:=d.ma) (n:=1) (cap:=1) (e:=107) (size:=10) (xs:=vC d v) rfl i (by omega);exact⟨this.1.trans hx,this.2⟩
theorem aj.Az(h:aj w0 w d v G ng st):d.ma<w.heap.size:=(h.kc (.inr (.inr (.inl rfl)))).2
theorem DJ{L:List It}{i k:Nat}(hi:i<L.length)(hk:k<2):(L.flatMap aT)[i*2+k]?=(aT (L.getD i (0,0)))[k]?:=by
 induction L generalizing i with
 |nil=>simp at hi
 |cons a L ih=>
  rw[List.flatMap_cons];have hl:(aT a).length=2:=rfl;cases i with
  |zero=>rw[List.getElem?_append_left (by omega)];simp
  |succ i=>
   rw[List.getElem?_append_right (by omega),hl,show (i+1)*2+k-2=i*2+k by omega];rw[ih (by simpa using hi)];simp[List.getD]
theorem DK(L:List It):(L.flatMap aT).length=L.length*2:=by
 induction L with
 |nil=>rfl
 |cons a L ih=>rw[List.flatMap_cons,List.length_append,ih];simp[aT];omega
theorem aaD{L:List aN}{i k:Nat}(hi:i<L.length)(hk:k<3):(L.flatMap jY)[i*3+k]?=(jY (L.getD i (0,0,0)))[k]?:=by
 induction L generalizing i with
 |nil=>simp at hi
 |cons a L ih=>
  rw[List.flatMap_cons];have hl:(jY a).length=3:=rfl;cases i with
  |zero=>rw[List.getElem?_append_left (by omega)];simp
  |succ i=>
   rw[List.getElem?_append_right (by omega),hl,show (i+1)*3+k-3=i*3+k by omega];rw[ih (by simpa using hi)];simp[List.getD]
theorem KR(L:List aN):(L.flatMap jY).length=L.length*3:=by
 induction L with
 |nil=>rfl
 |cons a L ih=>rw[List.flatMap_cons,List.length_append,ih];simp[jY];omega
theorem AA{base n:Nat}{x:Value}{L:List It}(h:w.ownsRow base 138 2 x n (L.flatMap aT))(hn:n=L.length):iI w w.heap.size x L:=by
 subst hn;obtain⟨a,c,hv⟩:=bK h;refine⟨⟨a,c,hv⟩,fun k hk=> ?_⟩;obtain⟨g,cap,rfl,_,hlt⟩:=h.form (by omega);refine⟨g,0,cap,rfl,hlt,?_,?_⟩
 ·rw[Nat.zero_add,h.cellAt (k*2) (by omega)]
  have:=DJ (k:=0) hk (by omega);simpa [aT] using this
 ·rw[Nat.zero_add,h.cellAt (k*2+1) (by omega)]
  have:=DJ (k:=1) hk (by omega);simpa [aT] using this
theorem aj.items(h:aj w0 w d v G ng st){k:Nat}(hk:k<v.OL.length):iI w w.heap.size (v.IV k) (v.OL.getD k []):=AA (h.own.own (.it k) _ (KQ hk)) rfl
theorem aj.states(h:aj w0 w d v G ng st):∃a c,v.sv= .slice a v.OL.length c:=h.own.slice (i:= .st) rfl
theorem aj.state(h:aj w0 w d v G ng st){k:Nat}(hk:k<v.OL.length):∃g c,v.sv= .slice (some ⟨g,0,none⟩) v.OL.length c/\g<w.heap.size/\w.cell? ⟨g,k,none⟩=some (v.IV k):=by
 obtain⟨g,c,hv,_,hlt⟩:=h.own.form (i:= .st) rfl (by simp only;omega);simp only at hv;refine⟨g,c,hv,hlt,?_⟩;have ho:=h.own.own .st _ rfl;simp only[hv]at ho;rw[ho.cellAt k (by omega)];simp[hk]
theorem aj.rules(h:aj w0 w d v G ng st){R:List Ru}{Nu:List Bool}{Fi:List (List Bool)}(E:iT w0 d R Nu Fi):au w w0.heap.size d.rv R:=E.rules.below h.since
theorem aj.aaE(h:aj w0 w d v G ng st){G':Wy->Option Value}{n':Nat}(hg:w.grownBy w' (some d.mg))(hm:MapAt Tryz.prog 143 o7 w' d.mg n' G'):aj w0 w' d v G' n' st/\aF d v v w w':=by
 have hk:aF d v v w w':=⟨⟨hg.os,hg.tape,hg.output,hg.size,fun b hb hK=>hg.block b hb fun e=>hK (.inl (by simpa using e))⟩,fun _ _ hK=>hK⟩;refine⟨⟨h.own.heap fun i r g hr hg'=>hg.block g (h.own.lt hr hg').2 fun e=>h.off (.inl rfl) hr (hg'.trans e),hm,h.rA.kept (hg.block _ h.rA.lt fun e=>h.ne (by simpa using e.symm)),h.ne,h.ge,h.since.trans (h.nR hk)⟩,hk⟩
theorem aj.KS(h:aj w0 w d v G ng st){lk':aN->Nat}{c':Nat}(hg:w.grownBy w' (some d.ml))(hm:MapAt Tryz.prog 145 mX w' d.ml c' (tL lk')):aj w0 w' d v G ng ⟨lk',st.O,c'⟩/\aF d v v w w':=by
 have hk:aF d v v w w':=⟨⟨hg.os,hg.tape,hg.output,hg.size,fun b hb hK=>hg.block b hb fun e=>hK (.inr (.inl (by simpa using e)))⟩,fun _ _ hK=>hK⟩;refine⟨⟨h.own.heap fun i r g hr hg'=>hg.block g (h.own.lt hr hg').2 fun e=>h.off (.inr rfl) hr (hg'.trans e),h.rz.kept (hg.block _ h.rz.lt fun e=>h.ne (by simpa using e)),hm,h.ne,h.ge,h.since.trans (h.nR hk)⟩,hk⟩
theorem aaF{O O':List aN}{aA:Value}:upd (upd (gM d v O) .op ⟨aA,145,3,O'.length,O'.flatMap jY⟩) .ma ⟨.slice (some ⟨d.ma,0,none⟩) 1 1,107,10,1,(vC d v).set 9 aA⟩=gM d { v with ov:=aA } O':=by
 funext i
 cases i<;>simp[upd,gM,vC]
theorem aj.Aj(h:aj w0 w d v G ng st){aA:Value}{O':List aN}(hg:w.grownBy w' v.ov.ownBlock)(ho:w'.ownsRow w0.heap.size 145 3 aA O'.length (O'.flatMap jY))(hat:∀g,aA.ownBlock=some g->v.ov.ownBlock=some g\/g=w.heap.size):
 aj w0 (w'.setCell ⟨d.ma,9,none⟩ aA) d { v with ov:=aA } G ng { st with O:=O' }/\aF d v { v with ov:=aA } w (w'.setCell ⟨d.ma,9,none⟩ aA):=by
 have h1:=h.own.turn (i:= .op) (r':=⟨aA,145,3,O'.length,O'.flatMap jY⟩) rfl hg ho hat;have h2:=h1.store (i:= .ma) (g:=d.ma) (n:=1) (cap:=1) (e:=107) (size:=10) (xs:=vC d v) (by simp[upd,gM]) 9 aA;rw[aaF]at h2;have far:∀b,b<w.heap.size->b≠d.ma->some b≠v.ov.ownBlock->(w'.setCell ⟨d.ma,9,none⟩ aA).heap[b]?=w.heap[b]?:=fun b hb hne hr=>(Below.heap_setCell _ _ _ _ hne).trans (hg.block b hb hr)
 have m:∀b,(b=d.mg\/b=d.ml)->b<w.heap.size->(w'.setCell ⟨d.ma,9,none⟩ aA).heap[b]?=w.heap[b]?:=fun b hb hlt=>
  far b hlt (fun e=>h.off hb (i:= .ma) rfl (by rw[e];rfl)) fun e=>h.off hb (i:= .op) rfl e.symm
 have hk:aF d v { v with ov:=aA } w (w'.setCell ⟨d.ma,9,none⟩ aA):=by
  refine⟨⟨hg.os,hg.tape,hg.output,by have:=hg.size;simpa [World.setCell] using this,fun b hb hK=>far b hb (fun e=>hK (.inr (.inr (.inl e)))) fun e=>hK (.inr (.inr (.inr (.inr (.inl e.symm)))))⟩,fun b hb hK=> ?_⟩;rcases hK with hK|hK|hK|hK|hK|hK
  ·exact .inl hK
  ·exact .inr (.inl hK)
  ·exact .inr (.inr (.inl hK))
  ·exact .inr (.inr (.inr (.inl hK)))
  ·rcases hat b hK with e|e
   ·exact .inr (.inr (.inr (.inr (.inl e))))
   ·omega
  ·exact .inr (.inr (.inr (.inr (.inr hK))))
 exact⟨⟨h2,h.rz.kept (m _ (.inl rfl) h.rz.lt),h.rA.kept (m _ (.inr rfl) h.rA.lt),h.ne,h.ge,h.since.trans (h.nR hk)⟩,hk⟩
theorem aj.pop(h:aj w0 w d v G ng st){O:List aN}{p:aN}(hO:st.O=O++[p]){g cap:Nat}(hv:v.ov= .slice (some ⟨g,0,none⟩) (O.length+1) cap):
 aj w0 (w.setCell ⟨d.ma,9,none⟩ (.slice (some ⟨g,0,none⟩) O.length cap)) d { v with ov:= .slice (some ⟨g,0,none⟩) O.length cap } G ng { st with O:=O }/\
  aF d v { v with ov:= .slice (some ⟨g,0,none⟩) O.length cap } w (w.setCell ⟨d.ma,9,none⟩ (.slice (some ⟨g,0,none⟩) O.length cap)):=by
 have ho:=h.own.own .op _ rfl;simp only[hv,hO]at ho
 have ho':w.ownsRow w0.heap.size 145 3 (.slice (some ⟨g,0,none⟩) O.length cap) O.length (O.flatMap jY):=by
  refine⟨KR _,?_⟩;rcases ho.2 with⟨e,_⟩|⟨g',cap',cur,e,h2,h3,h4,h5,h6,h7⟩
  ·cases e
  ·injection e with e1 e2 e3
   injection e1 with e1;injection e1 with e1;subst e1;subst e3;simp only[List.length_append,List.length_cons,List.length_nil]at h4;refine .inr ⟨g,cap,cur,rfl,h2,h3,by omega,h5,h6,?_⟩;rw[List.flatMap_append]at h7;have h9:=congrArg (List.take (O.length*3)) h7;rw[List.take_take,List.length_append,List.length_cons,List.length_nil,Nat.min_eq_left (by omega),<-KR,List.take_left]at h9;rw[<-KR];exact h9
 exact h.Aj (World.grownBy.refl w _) ho' (fun b hb=> .inl (by rw[hv];exact hb))
def nY(v:bS)(cv:Value)(k:Nat):Value:=if k=v.OL.length then cv else v.IV k
theorem aaG{O:List aN}{cu cv:Value}{C:List It}:upd (upd (upd (gM d v O) (.it v.OL.length) ⟨cv,138,2,C.length,C.flatMap aT⟩) .st ⟨cu,139,1,v.OL.length+1,(List.range v.OL.length).map v.IV++[cv]⟩) .ma ⟨.slice (some ⟨d.ma,0,none⟩) 1 1,107,10,1,(vC d v).set 6 cu⟩=
 gM d { v with sv:=cu,IV:=nY v cv,OL:=v.OL++[C] } O:=by
 funext i
 cases i with
 |ma=>simp[upd,gM,vC]
 |op=>simp[upd,gM]
 |st=>
  simp only[upd,gM];rw[if_neg (by simp),if_pos trivial]
  congr 2
  ·simp
  ·rw[List.length_append,List.length_cons,List.length_nil,List.range_succ,List.map_append]
   congr 1
   ·refine List.map_congr_left fun k hk=> ?_
    have:=List.mem_range.1 hk;simp[nY,show k≠v.OL.length by omega]
   ·simp[nY]
 |it k=>
  simp only[upd,gM,List.length_append,List.length_cons,List.length_nil];rw[if_neg (by simp),if_neg (by simp)];by_cases e:k=v.OL.length
  ·subst e
   rw[if_pos rfl,if_pos (by omega)];simp[nY,List.getD]
  ·rw[if_neg (by simpa using e)]
   by_cases hk:k<v.OL.length
   ·rw[if_pos hk,if_pos (by omega)]
    simp[nY,e,List.getD,List.getElem?_append_left hk]
   ·rw[if_neg hk,if_neg (by omega)]
theorem aj.aaH{ws:World}(h:aj w0 ws d v G ng st)(hb:Below ws.heap.size ws w){cv:Value}{C:List It}(hC:w.ownsRow ws.heap.size 138 2 cv C.length (C.flatMap aT)){cu:Value}(hg:w.grownBy w' v.sv.ownBlock)
 (ho:w'.ownsRow w0.heap.size 139 1 cu (v.OL.length+1) ((List.range v.OL.length).map v.IV++[cv])) (hat:∀g,cu.ownBlock=some g->v.sv.ownBlock=some g\/g=w.heap.size):
 aj w0 (w'.setCell ⟨d.ma,6,none⟩ cu) d { v with sv:=cu,IV:=nY v cv,OL:=v.OL++[C] } G ng st/\aF d v { v with sv:=cu,IV:=nY v cv,OL:=v.OL++[C] } ws (w'.setCell ⟨d.ma,6,none⟩ cu):=by
 have hM:=h.below hb;have hlt:∀b,mY d v b->b<ws.heap.size:=fun b hb=>(h.kc hb).2
 have o1:ah w w0.heap.size (upd (gM d v st.O) (.it v.OL.length) ⟨cv,138,2,C.length,C.flatMap aT⟩):=hM.own.put (jf hC h.le) (fun j a _ ha=>hM.own.own j a ha) (fun j a _ ha g h1 h2=>by
  have:=hlt g (RO ha h1);have:=(hC.lt g h2).1
  omega)
 have o2:=o1.turn (i:= .st) (r:=⟨v.sv,139,1,v.OL.length,(List.range v.OL.length).map v.IV⟩) (r':=⟨cu,139,1,v.OL.length+1,(List.range v.OL.length).map v.IV++[cv]⟩) (by simp[upd,gM]) hg ho hat;have o3:=o2.store (i:= .ma) (g:=d.ma) (n:=1) (cap:=1) (e:=107) (size:=10) (xs:=vC d v) (by simp[upd,gM]) 6 cu;rw[aaG]at o3;have far:∀b,b<ws.heap.size->b≠d.ma->some b≠v.sv.ownBlock->(w'.setCell ⟨d.ma,6,none⟩ cu).heap[b]?=ws.heap[b]?:=fun b hbl hne hr=>((Below.heap_setCell _ _ _ _ hne).trans (hg.block b (Nat.lt_of_lt_of_le hbl hb.size) hr)).trans (hb.block b hbl)
 have m:∀b,(b=d.mg\/b=d.ml)->b<ws.heap.size->(w'.setCell ⟨d.ma,6,none⟩ cu).heap[b]?=ws.heap[b]?:=fun b hb' hlt=>
  far b hlt (fun e=>h.off hb' (i:= .ma) rfl (by rw[e];rfl)) fun e=>h.off hb' (i:= .st) rfl e.symm
 have hk:aF d v { v with sv:=cu,IV:=nY v cv,OL:=v.OL++[C] } ws (w'.setCell ⟨d.ma,6,none⟩ cu):=by
  refine⟨⟨hg.os.trans hb.os,hg.tape.trans hb.tape,hg.output.trans hb.output,by have:=hg.size;have:=hb.size;simp[World.setCell];omega,fun b hbl hK=>far b hbl (fun e=>hK (.inr (.inr (.inl e)))) fun e=>hK (.inr (.inr (.inr (.inl e.symm))))⟩,fun b hbl hK=> ?_⟩;rcases hK with hK|hK|hK|hK|hK|⟨k,hk,hK⟩
  ·exact .inl hK
  ·exact .inr (.inl hK)
  ·exact .inr (.inr (.inl hK))
  ·rcases hat b hK with e|e
   ·exact .inr (.inr (.inr (.inl e)))
   ·have:=hb.size;omega
  ·exact .inr (.inr (.inr (.inr (.inl hK))))
  ·simp only[nY]at hK
   simp only[List.length_append,List.length_cons,List.length_nil]at hk;split at hK
   ·have:=(hC.lt b hK).1;omega
   ·exact .inr (.inr (.inr (.inr (.inr ⟨k,by omega,hK⟩))))
 exact⟨⟨o3,h.rz.kept (m _ (.inl rfl) h.rz.lt),h.rA.kept (m _ (.inr rfl) h.rA.lt),h.ne,h.ge,h.since.trans (h.nR hk)⟩,hk⟩
theorem aj.Gl(h:aj w0 w d v G ng st){s:aN}(h1:s.1<=1000)(h2:s.2.1<=1000)(h3:s.2.2<=1000)(hc:st.c<=10000000):(Instr.lookup 103 (.map (some d.ml)) (mX s) false).run Tryz.prog w= .ok (.int .u32 (st.lk s)) w:=by
 obtain⟨l,hl⟩:=RN h1 h2 h3;have:=CV h.rA false (by unfold maxLen;omega) RB Tryz.underlying103 (aaC w) Ry hl;rw[this];by_cases hi:st.lk s=0
 ·simp[tL,hi]
 ·simp[tL,hi]
theorem aj.RP(h:aj w0 w d v G ng st){p:Wy}(h1:p.1<=1000)(h2:0<=p.2.2)(h3:p.2.2<=1000)(hc:ng<=10000000)(c:Bool):(Instr.lookup 102 (.map (some d.mg)) (o7 p) c).run Tryz.prog w= .ok (if c then .tuple #[(G p).getD (.int .i64 0),.bool (G p).isSome] else (G p).getD (.int .i64 0)) w:=by
 obtain⟨l,hl⟩:=RJ h1 h2 h3;exact CV h.rz c (by unfold maxLen;omega) RA Tryz.underlying102 (zero_num w) Rx hl
theorem aj.gN(h:aj w0 w d v G ng st){p:Wy}(h1:p.1<=1000)(h2:0<=p.2.2)(h3:p.2.2<=1000)(x:Value):
 ∃w',(Instr.mapUpdate 102 (.map (some d.mg)) (o7 p) x).run Tryz.prog w= .ok () w'/\aj w0 w' d v (eT G p x) (ng+1) st/\aF d v v w w'/\w'.heap.size=w.heap.size:=by
 obtain⟨l,hl⟩:=RJ h1 h2 h3;obtain⟨w',e1,e2,e3,e4⟩:=Ka h.rz RA Tryz.underlying102 Rx hl x;obtain⟨a,b⟩:=h.aaE e3 e2;exact⟨w',e1,a,b,e4⟩
theorem aaI{lk:aN->Nat}{s:aN}{m:Nat}(hm:m≠0):eT (tL lk) s (.int .u32 m)=tL fun t=>if t=s then m else lk t:=by
 funext t
 by_cases e:t=s
 ·subst e;simp[eT,tL,hm]
 ·simp[eT,tL,e]
theorem aj.aaJ(h:aj w0 w d v G ng st){s:aN}(h1:s.1<=1000)(h2:s.2.1<=1000)(h3:s.2.2<=1000){m:Nat}(hm:m≠0):
 ∃w',(Instr.mapUpdate 103 (.map (some d.ml)) (mX s) (.int .u32 m)).run Tryz.prog w= .ok () w'/\aj w0 w' d v G ng ⟨fun t=>if t=s then m else st.lk t,st.O,st.c+1⟩/\aF d v v w w'/\w'.heap.size=w.heap.size:=by
 obtain⟨l,hl⟩:=RN h1 h2 h3;obtain⟨w',e1,e2,e3,e4⟩:=Ka h.rA RB Tryz.underlying103 Ry hl (.int .u32 m);rw[aaI hm]at e2;obtain⟨a,b⟩:=h.KS e3 e2;exact⟨w',e1,a,b,e4⟩
end
end Go.Proofs.YtblkkhfdeaaidaaGreatDoor
namespace Go.Proofs.YtblkkhfdeaaidaaGreatDoor
open Go.RowKit
theorem aj.auto{w0 w:World}{d:eD}{v:bS}{G:Wy->Option Value}{ng:Nat}{st:LS}{R:List Ru}{Nu:List Bool}{Fi:List (List Bool)}(h:aj w0 w d v G ng st)(E:iT w0 d R Nu Fi):iC w w0.heap.size d.ma d.T d.N d.rv R:=
 ⟨(h.cell (i:=0) rfl (by omega)).1,(h.cell (i:=1) rfl (by omega)).1,(h.cell (i:=2) rfl (by omega)).1,h.rules E,h.le,h.Az⟩
theorem iC.boxed{w:World}{lim ab T N:Nat}{rv:Value}{R:List Ru}(h:iC w lim ab T N rv R)(o:Obj):iC (w.alloc o) lim ab T N rv R:=h.below ((Below.refl _ _).alloc (Nat.le_refl _) o) h.le h.lt
theorem iC.later{w w':World}{lim ab T N:Nat}{rv:Value}{R:List Ru}(h:iC w lim ab T N rv R)(hb:Below w.heap.size w w'):iC w' lim ab T N rv R:=h.below hb h.le h.lt
theorem Gm{w:World}{lim ab T N:Nat}{rv:Value}{R:List Ru}(hA:iC w lim ab T N rv R):
 Calls Tryz.prog 79 #[.pointer (some ⟨ab,0,none⟩)] w fun e w'=>e= .returned (.int .i64 R.length)/\w'=w:=by
 obtain⟨ra,rc,aG⟩:=hA.rules.1;subst aG;have a2:=hA.r;clear hA
 go_enter Tryz.func79,Tryz.ntmps79
 go_wp2_with fail
 go_ret;exact⟨rfl,rfl⟩
theorem KT{w:World}{lim ab T N r:Nat}{rv:Value}{R:List Ru}(hA:iC w lim ab T N rv R)(hr:r<=R.length):
 Calls Tryz.prog 138 #[.pointer (some ⟨ab,0,none⟩),.int .i64 r] w fun e w'=> ∃la lc,e= .returned (.slice la (aH R r).length lc)/\bG w' (.slice la (aH R r).length lc) (aH R r)/\Below w.heap.size w w':=by
 have RQ:=Gm hA;obtain⟨ra,rc,aG⟩:=hA.rules.1;subst aG;have a2:=hA.r;by_cases he:r=R.length
 ·subst he
  have e1:((R.length:Int)==(R.length:Int))=true:=by simp
  have HE:Hid (aH R R.length=[(false,0)]):=by show aH R R.length=_;simp[aH]
  clear hA hr
  go_enter Tryz.func138,Tryz.ntmps138
  go_wp2_with (go_at_call 79;refine RQ.mono ?_;rintro e w1 ⟨rfl,rfl⟩)
  go_ret;rw[HE.out];refine⟨some ⟨w1.heap.size,0,none⟩,1,rfl,?_,(Below.refl _ _).alloc (Nat.le_refl _) _⟩;refine⟨⟨_,_,rfl,Nat.le_refl _⟩,fun j hj=> ?_⟩;have hj0:j=0:=by simpa using hj
  subst hj0;exact⟨w1.heap.size,0,1,rfl,by simp[go_sem],by simp[go_sem]⟩
 ·have hlt:r<R.length:=by omega
  obtain⟨b,o,rc',qa,qc,hv,hb,k1,k2,hsy⟩:=hA.rules.jV hlt;cases hv;have e1:((r:Int)==(R.length:Int))=false:=by simpa using fun h=>he (by omega)
  have i0:(0:Int)<=(r:Int):=Int.natCast_nonneg _;have i1:(r:Int)<(R.length:Int):=by omega
  have k2':w.cell? ⟨b,o+r*2+1,none⟩=some (.slice qa (R.getD r (0,[])).2.length qc):=by rw[Nat.add_assoc];exact k2
  have hre:aH R r=(R.getD r (0,[])).2:=by rw[aH,if_neg he]
  obtain⟨Rt,lq⟩:∃x,(R.getD r (0,[])).2=x:=⟨_,rfl⟩;rw[lq]at k2' hsy hre;rw[hre];have HE:Hid (bG w (.slice qa Rt.length qc) Rt):=hsy;clear hA hr k2 hsy he lq hre
  go_enter Tryz.func138,Tryz.ntmps138
  go_wp2_with (go_at_call 79;refine RQ.mono ?_;rintro e w1 ⟨rfl,rfl⟩)
  go_ret;exact⟨qa,qc,rfl,HE.out,Below.refl _ _⟩
theorem Gn{w:World}{lim ab T N a b:Nat}{rv:Value}{R:List Ru}{s:Sy}(hA:iC w lim ab T N rv R)(hr:a<=R.length)(hs:(aH R a)[b]?=some s):
 Calls Tryz.prog 104 #[.pointer (some ⟨ab,0,none⟩),.agg #[.int .i64 a,.int .i64 b]] w fun e w'=>e= .returned (.tuple #[.agg #[.bool s.1,.int .i64 s.2],.bool true])/\Below w.heap.size w w':=by
 obtain⟨hlt,hget⟩:=List.getElem?_eq_some_iff.1 hs;have hgd:(aH R a).getD b (false,0)=s:=by simp[List.getD,hs]
 have rg:=KT ((hA.boxed (.cells #[.int .i64 a,.int .i64 b] 138)).boxed (.cells #[.bool false,.int .i64 0] 116)) hr;obtain⟨Rt,lq⟩:∃x,aH R a=x:=⟨_,rfl⟩;rw[lq]at rg hlt hgd;have HG:Hid (Rt.getD b (false,0)=s):=hgd;have HL:Hid (b<Rt.length):=hlt;clear hA hget hs lq hgd;obtain⟨s1,s2⟩:=s
 go_enter Tryz.func104,Tryz.ntmps104
 go_wp2_with
  (go_at_call 138;refine rg.mono ?_;rintro e w2 ⟨la,lc,rfl,hsy,hB2⟩
   obtain⟨g,o,c,hv,c1,c2⟩:=hsy.2 b HL.out;cases hv;rw[HG.out]at c1 c2;simp only at c1 c2;have b0:w2.cell? ⟨w.heap.size,0,none⟩=some (.int .i64 a):=(hB2.cell (by simp;omega)).trans (by simp[go_sem]);have b1:w2.cell? ⟨w.heap.size,1,none⟩=some (.int .i64 b):=(hB2.cell (by simp;omega)).trans (by simp[go_sem]);have r0:w2.cell? ⟨w.heap.size+1,0,none⟩=some (.bool false):=(hB2.cell (by simp)).trans (by simp[go_sem]);have r1:w2.cell? ⟨w.heap.size+1,1,none⟩=some (.int .i64 0):=(hB2.cell (by simp)).trans (by simp[go_sem]);have rf:∀o,w2.frozen? ⟨w.heap.size+1,o,none⟩=false:=fun o=>(hB2.frozen (by simp)).trans (by simp[go_sem]);have e1:((b:Int)==(Rt.length:Int))=false:=by have:=HL.out;simp;omega
   have i0:(0:Int)<=(b:Int):=Int.natCast_nonneg _;have i1:(b:Int)<(Rt.length:Int):=by have:=HL.out;omega
   have HX:Hid (Below w.heap.size w w2):=((((Below.refl _ _).alloc (Nat.le_refl _) _).alloc (by simp) _).trans (hB2.mono (by simp;omega)))
   clear hB2 hsy rg)
 refine bodyPost_ret (v:= .tuple #[.agg #[.bool s1,.int .i64 s2],.bool true]) (by simp[results,Tryz.results104,go_sem,r0,r1]) rfl ⟨rfl,?_⟩;exact(HX.out.setCell (by simp) _).setCell (by simp) _
theorem Gp{w:World}{lim ab T N a b:Nat}{rv:Value}{R:List Ru}(hA:iC w lim ab T N rv R)(hr:a<=R.length)(hb:b=(aH R a).length):
 Calls Tryz.prog 104 #[.pointer (some ⟨ab,0,none⟩),.agg #[.int .i64 a,.int .i64 b]] w fun e w'=>e= .returned (.tuple #[.agg #[.bool false,.int .i64 0],.bool false])/\Below w.heap.size w w':=by
 have rg:=KT ((hA.boxed (.cells #[.int .i64 a,.int .i64 b] 138)).boxed (.cells #[.bool false,.int .i64 0] 116)) hr;rw[<-hb]at rg;clear hA hb
 go_enter Tryz.func104,Tryz.ntmps104
 go_wp2_with
  (go_at_call 138;refine rg.mono ?_;rintro e w2 ⟨la,lc,rfl,_,hB2⟩
   have b1:w2.cell? ⟨w.heap.size,1,none⟩=some (.int .i64 b):=(hB2.cell (by simp;omega)).trans (by simp[go_sem]);have r0:w2.cell? ⟨w.heap.size+1,0,none⟩=some (.bool false):=(hB2.cell (by simp)).trans (by simp[go_sem]);have r1:w2.cell? ⟨w.heap.size+1,1,none⟩=some (.int .i64 0):=(hB2.cell (by simp)).trans (by simp[go_sem]);have rf:∀o,w2.frozen? ⟨w.heap.size+1,o,none⟩=false:=fun o=>(hB2.frozen (by simp)).trans (by simp[go_sem]);have HX:Hid (Below w.heap.size w w2):=((((Below.refl _ _).alloc (Nat.le_refl _) _).alloc (by simp) _).trans (hB2.mono (by simp;omega)))
   clear hB2 rg)
 refine bodyPost_ret (v:= .tuple #[.agg #[.bool false,.int .i64 0],.bool false]) (by simp[results,Tryz.results104,go_sem,r0,r1]) rfl ⟨rfl,?_⟩;exact(HX.out.setCell (by simp) _).setCell (by simp) _
theorem RS{w:World}{a b:Nat}(hb:b<=1000):
 Calls Tryz.prog 105 #[.agg #[.int .i64 a,.int .i64 b]] w fun e w'=>e= .returned (.agg #[.int .i64 a,.int .i64 ((b:Int)+1)])/\Below w.heap.size w w':=by
 go_enter Tryz.func105,Tryz.ntmps105
 go_wp2_with fail
 refine bodyPost_ret (v:= .agg #[.int .i64 a,.int .i64 ((b:Int)+1)]) (by simp[results,Tryz.results105,go_sem]) rfl ⟨rfl,?_⟩;exact((Below.refl _ _).alloc (Nat.le_refl _) _).alloc (by simp) _
def dF(R:List Ru)(m:Int)(k:Nat):List It:=((List.range k).filter fun n=>decide ((R.getD n (0,[])).1=m)).map fun n=>(n,0)
theorem RU{R:List Ru}{m:Int}{k:Nat}(h:(R.getD k (0,[])).1=m):dF R m (k+1)=dF R m k++[(k,0)]:=by
 unfold dF;rw[List.range_succ,List.filter_append,List.map_append];have e:([k].filter fun n=>decide ((R.getD n (0,[])).1=m))=[k]:=by rw[List.filter_cons,if_pos (by simpa using h)];rfl
 rw[e];rfl
theorem aaK{R:List Ru}{m:Int}{k:Nat}(h:(R.getD k (0,[])).1≠m):dF R m (k+1)=dF R m k:=by
 unfold dF;rw[List.range_succ,List.filter_append,List.map_append];have e:([k].filter fun n=>decide ((R.getD n (0,[])).1=m))=[]:=by rw[List.filter_cons,if_neg (by simpa using h)];rfl
 rw[e];simp
theorem KU(R:List Ru)(m:Int)(k:Nat):(dF R m k).length<=k:=by
 unfold dF;rw[List.length_map];refine Nat.le_trans (List.length_filter_le _ _) ?_;simp
theorem KV{w:World}{lim ab T N:Nat}{rv:Value}{R:List Ru}{m:Int}(hA:iC w lim ab T N rv R)(hR:R.length<=40):
 Calls Tryz.prog 107 #[.pointer (some ⟨ab,0,none⟩),.int .i64 m] w fun e w'=> ∃ov,e= .returned ov/\w'.ownsRow w.heap.size 138 2 ov (dF R m R.length).length ((dF R m R.length).flatMap aT)/\Below w.heap.size w w'/\(dF R m R.length=[]->ov= .slice none 0 0):=by
 obtain⟨ra,rc,aG⟩:=hA.rules.1;subst aG;have a2:=hA.r;have HA:Hid (iC w lim ab T N (.slice ra R.length rc) R):=hA;clear hA
 go_enter Tryz.func107,Tryz.ntmps107
 go_wp2_with fail
 clear a2
 go_loopw [5,14] (fun s5 s14 wr=> ∃(k:Nat) (ov:Value),ov=s5/\s14= .int .i64 k/\k<=R.length/\wr.ownsRow w.heap.size 138 2 ov (dF R m k).length ((dF R m k).flatMap aT)/\Below w.heap.size w wr/\(dF R m k=[]->ov= .slice none 0 0)) (fun _ s _=>R.length-(intOf s).toNat)
 case atStart=>exact⟨0,_,rfl,rfl,Nat.zero_le _,World.ownsRow_nil w w.heap.size 138 2,Below.refl _ _,fun _=>rfl⟩
 case round=>
  obtain⟨k,ov,rfl,rfl,hk,hO,hB,RV⟩:=hrel;have DL:Hid (dF R m k=[]->ov= .slice none 0 0):=RV;clear RV;have HB:Hid (Below w.heap.size w wr):=hB;have HO:Hid (wr.ownsRow w.heap.size 138 2 ov (dF R m k).length ((dF R m k).flatMap aT)):=hO;by_cases hlt:k<R.length
  ·obtain⟨b,o,rc',qa,qc,hv,hb,k1,k2,_⟩:=(HA.out.later hB).rules.jV hlt
   cases hv;have hle:=HA.out.le;have hsz:=hB.size;have hll:=KU R m k;obtain⟨l,hl⟩:∃l,(R.getD k (0,[])).1=l:=⟨_,rfl⟩;obtain⟨q,hq⟩:∃q,(R.getD k (0,[])).2.length=q:=⟨_,rfl⟩;rw[hl]at k1;rw[hq]at k2;have HL:Hid ((R.getD k (0,[])).1=l):=hl;have i0:(0:Int)<=(k:Int):=Int.natCast_nonneg _;have i1:(k:Int)<(R.length:Int):=by omega
   obtain⟨W1,hW1⟩:∃W1,wr.alloc (.cells #[.int .i64 l,.slice qa q qc] 91)=W1:=⟨_,rfl⟩;have HB1:Hid (Below w.heap.size w W1):=by show Below _ _ _;rw[<-hW1];exact hB.alloc (by omega) _
   have vD:Hid (W1.ownsRow w.heap.size 138 2 ov (dF R m k).length ((dF R m k).flatMap aT)):=by show World.ownsRow _ _ _ _ _ _ _;rw[<-hW1];exact hO.alloc _
   clear hB hO hl hq;by_cases hm:l=m
   ·subst hm
    have e1:(l==l)=true:=by simp
    have dh:=vD.out.alloc (.cells #[.int .i64 k,.int .i64 0] 138);have iJ:=World.news_of_block (cs:= #[.int .i64 k,.int .i64 0]) (t:=138) (fr:=(0,0)) (heap_alloc_new W1 (.cells #[.int .i64 k,.int .i64 0] 138));have hs1:w.heap.size<=W1.heap.size:=HB1.out.size;have aaL:W1.heap.size=wr.heap.size+1:=by rw[<-hW1];simp
    rw[aaL]at iJ;obtain⟨p,hp⟩:∃p,(dF R l k).length=p:=⟨_,rfl⟩;rw[hp]at dh hll;have n1:p+1<=maxLen:=by unfold maxLen;omega
    have n2:(p+1)*16<=140737488355328:=by omega
    have HP:Hid ((dF R l k).length=p):=hp;obtain⟨rC,hi0,hz0,hz1,hz2⟩:=info_parts Tryz.infoIt;clear hp;have HW1:Hid (wr.alloc (.cells #[.int .i64 l,.slice qa q qc] 91)=W1):=hW1;clear hW1
    go_wp2_with
     (at_builtin
      rw[HW1.out]
      refine wpList_append_lies _ rfl _ _ _ rfl w.heap.size 138 rC _ 2 16 Tryz.underlying139 hi0 hz0 hz1 hz2 rfl (by omega) ov p ((dF R l k).flatMap aT) rfl dh
       ⟨wr.heap.size+1,0,none⟩ 1 1 [.int .i64 k,.int .i64 0] rfl rfl iJ (by simp[Value.oneCell']) (by omega) n1 n2 (by simp;omega) (wr.heap.size+2) (by simp;omega) ?_
      intro g6 cap6 w6 hown6 dO lI rq)
    go_roundw
    case rel=>
     have aQ:Below w.heap.size w w6:=(HB1.out.alloc (by omega) _).grown dO (by simp;omega) (fun j hj=>(vD.out.lt j hj).1);refine⟨k+1,_,rfl,by go_num,by omega,?_,aQ,fun e=>by rw[RU HL.out]at e;simp at e⟩;rw[RU HL.out,List.flatMap_append,List.length_append,HP.out];exact hown6
    case measure=>simp[intOf];omega
   ·have e1:(l==m)=false:=by simpa using hm
    have HN:Hid (dF R m (k+1)=dF R m k):=aaK (by rw[HL.out];exact hm);have HW1:Hid (wr.alloc (.cells #[.int .i64 l,.slice qa q qc] 91)=W1):=hW1;clear hW1
    go_wp2_with fail
    go_roundw
    case rel=>exact⟨k+1,ov,rfl,by go_num,by omega,by rw[HN.out,HW1.out];exact vD.out,by rw[HW1.out];exact HB1.out,fun e=>DL.out (by rw[<-HN.out];exact e)⟩
    case measure=>simp[intOf];omega
  ·obtain rfl:k=R.length:=by omega
   clear hB hO
   go_wp2_with fail
   go_ret;exact⟨ov,rfl,HO.out,HB.out,DL.out⟩
theorem Gq{w:World}{n:Nat}(hn:n<=8):Calls Tryz.prog 83 #[.int .i64 n] w fun e w'=>e= .returned (.int .u32 ((2^n:Nat):Int))/\w'=w:=by
 match n,hn with
 |0,_|1,_|2,_|3,_|4,_|5,_|6,_|7,_|8,_=>
  go_enter Tryz.func83,Tryz.ntmps83
  go_wp2_with fail
  go_ret;exact⟨rfl,rfl⟩
end Go.Proofs.YtblkkhfdeaaidaaGreatDoor
