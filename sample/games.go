package sample

// Lamp is the game of the examples of chapter 17.
const Lamp = `role(x). role(y). init(s).
legal(x,a). legal(x,b). legal(y,c).
next(s) if does(x,a).
terminal if not true(s).
goal(x,100) if not true(s). goal(y,0).
`

// Noughts is the game of noughts and crosses.
const Noughts = `role(x). role(o).
init(cell(1,1,b)). init(cell(1,2,b)). init(cell(1,3,b)).
init(cell(2,1,b)). init(cell(2,2,b)). init(cell(2,3,b)).
init(cell(3,1,b)). init(cell(3,2,b)). init(cell(3,3,b)).
init(control(x)).
next(cell(M,N,R)) if does(R,mark(M,N)) and true(cell(M,N,b)).
next(cell(M,N,W)) if true(cell(M,N,W)) and distinct(W,b).
next(cell(M,N,b)) if true(cell(M,N,b)) and not marked(M,N).
marked(M,N) if does(R,mark(M,N)).
next(control(x)) if true(control(o)).
next(control(o)) if true(control(x)).
line(R) if role(R) and true(cell(M,1,R)) and true(cell(M,2,R)) and true(cell(M,3,R)).
line(R) if role(R) and true(cell(1,N,R)) and true(cell(2,N,R)) and true(cell(3,N,R)).
line(R) if role(R) and true(cell(1,1,R)) and true(cell(2,2,R)) and true(cell(3,3,R)).
line(R) if role(R) and true(cell(1,3,R)) and true(cell(2,2,R)) and true(cell(3,1,R)).
open if true(cell(M,N,b)).
legal(R,mark(M,N)) if true(control(R)) and true(cell(M,N,b)).
legal(R,noop) if role(R) and not true(control(R)).
terminal if line(R).
terminal if not open.
goal(R,100) if line(R).
goal(R,0) if role(R) and line(S) and distinct(R,S).
goal(R,50) if role(R) and not line(x) and not line(o) and not open.
`

// Coin is a game in which a coin is tossed before two roles call its side. The first one has peeked, and each role sees its own call.
const Coin = `role(chance). role(peek). role(guess).
init(air).
side(heads). side(tails).
legal(chance,toss(S)) if side(S) and true(air).
legal(chance,wait) if not true(air).
legal(R,wait) if player(R) and true(air).
legal(R,call(S)) if player(R) and side(S) and not true(air).
player(R) if role(R) and distinct(R,chance).
next(lies(S)) if does(chance,toss(S)).
next(lies(S)) if true(lies(S)).
next(called(R,S)) if does(R,call(S)).
sees(peek,S) if does(chance,toss(S)).
sees(R,own(S)) if does(R,call(S)).
terminal if true(called(R,S)).
goal(R,100) if true(lies(S)) and true(called(R,S)).
goal(R,0) if player(R) and true(lies(S)) and not true(called(R,S)).
`
