package queue_test

import (
	"errors"
	"math"
	"math/rand"
	"slices"
	"testing"

	"commissary/api"
	"commissary/queue"
)

// newQueue is a queue into which things were put, in order.
func newQueue[T any](t testing.TB, room int, things ...T) *queue.Queue[T] {
	t.Helper()
	q, e := queue.New[T](room)
	if e != api.OK || q == nil {
		t.Fatalf("New(%d) = %v, %d", room, q, e)
	}
	for i, x := range things {
		if !q.Put(x) {
			t.Fatalf("thing %d of %d is not put in", i, len(things))
		}
	}
	return q
}

// wantTold is that all that a queue tells is as it should be.
func wantTold[T any](t testing.TB, q *queue.Queue[T], size, room int, closed bool) {
	t.Helper()
	if q.Len() != size || q.Room() != room || q.Closed() != closed {
		t.Fatalf("Len %d, Room %d, Closed %v, not %d, %d, %v", q.Len(), q.Room(), q.Closed(), size, room, closed)
	}
}

func wantTake(t testing.TB, q *queue.Queue[int], want ...int) {
	t.Helper()
	for _, w := range want {
		if x, there := q.Take(); x != w || !there {
			t.Fatalf("Take() = %d, %v, not %d", x, there, w)
		}
	}
}

func wantEmpty(t testing.TB, q *queue.Queue[int]) {
	t.Helper()
	if x, there := q.Take(); x != 0 || there {
		t.Fatalf("Take() = %d, %v, though there is nothing", x, there)
	}
	if l := q.All(); len(l) != 0 {
		t.Fatalf("All() = %v, though there is nothing", l)
	}
}

// rising is the numbers from one on, so many.
func rising(from, count int) []int {
	var l []int
	for i := range count {
		l = append(l, from+i)
	}
	return l
}

// P7.1: how many things there may be room for.
func TestNew(t *testing.T) {
	for _, room := range []int{1, 2, 1023, 1024} {
		wantTold(t, newQueue[int](t, room), 0, room, false)
		wantEmpty(t, newQueue[int](t, room))
	}
	for _, room := range []int{0, -1, 1025, math.MinInt, math.MaxInt} {
		if q, e := queue.New[int](room); q != nil || e != api.ErrArg {
			t.Errorf("New(%d) = %v, %d", room, q, e)
		}
	}
}

// P7.1: as many things as there is room for are put in, and no more.
func TestPutFull(t *testing.T) {
	for _, room := range []int{1, 2, 7, 1024} {
		q := newQueue[int](t, room)
		for i := range room {
			if !q.Put(i) {
				t.Fatal(room, i)
			}
			wantTold(t, q, i+1, room-i-1, false)
		}
		for range 3 {
			if q.Put(-1) {
				t.Fatal(room, "a thing too many")
			}
			wantTold(t, q, room, 0, false)
		}
		wantTake(t, q, 0)
		if !q.Put(room) || q.Put(-1) {
			t.Fatal(room, "a place that is free again")
		}
		if l := q.All(); !slices.Equal(l, rising(1, room)) {
			t.Fatal(room, l)
		}
	}
}

// P7.1, P7.3: things come out in order, while others are put in.
func TestTake(t *testing.T) {
	q := newQueue(t, 3, 5, 6)
	wantTake(t, q, 5)
	wantTold(t, q, 1, 2, false)
	for i := range 10 {
		if !q.Put(7 + i) {
			t.Fatal(i)
		}
		wantTake(t, q, 6+i)
	}
	wantTake(t, q, 16)
	for range 3 {
		wantEmpty(t, q)
		wantTold(t, q, 0, 3, false)
	}
	if !q.Put(0) {
		t.Fatal("a queue that was empty takes nothing")
	}
	wantTake(t, q, 0)
}

// P7.1: behind Close nothing is put in, and what is there is taken.
func TestClose(t *testing.T) {
	for _, things := range [][]int{nil, {4}, {4, 0, 4}} {
		q := newQueue(t, 3, things...)
		if !q.Close() {
			t.Fatal("the first Close")
		}
		for range 3 {
			wantTold(t, q, len(things), 0, true)
			if q.Close() || q.Put(1) {
				t.Fatal("Close, or Put, of a queue that is closed")
			}
		}
		for i, x := range things {
			wantTake(t, q, x)
			wantTold(t, q, len(things)-i-1, 0, true)
			if q.Put(1) {
				t.Fatal("Put into a queue that is closed, and has room")
			}
		}
		for range 3 {
			wantEmpty(t, q)
			wantTold(t, q, 0, 0, true)
		}
	}
}

// P7.1: All of a queue that is empty, full, or neither, closed or not.
func TestAll(t *testing.T) {
	for count := range 4 {
		for _, closed := range []bool{false, true} {
			q := newQueue(t, 3, rising(1, count)...)
			room := 3
			if closed {
				q.Close()
				room = 0
			}
			if l := q.All(); !slices.Equal(l, rising(1, count)) {
				t.Fatal(count, closed, l)
			}
			wantTold(t, q, 0, room, closed)
			wantEmpty(t, q)
			if q.Put(9) == closed {
				t.Fatal("Put behind All", closed)
			}
		}
	}
}

// R3: what All answers is new memory, its spare room too.
func TestAllShare(t *testing.T) {
	q := newQueue(t, 5, 1, 2, 3)
	l := q.All()
	for i := range 5 {
		q.Put(10 + i)
	}
	clear(l[:cap(l)])
	m := q.All()
	if !slices.Equal(m, rising(10, 5)) {
		t.Fatal(m)
	}
	clear(l[:cap(l)])
	if !slices.Equal(m, rising(10, 5)) {
		t.Fatal("two answers share memory", m)
	}
}

// P7.2: how many things are moved, and which stay.
func TestMove(t *testing.T) {
	for _, x := range []struct{ there, held, most, want int }{
		{3, 1, 0, 0}, {3, 1, -1, 0}, {3, 1, math.MinInt, 0}, // none
		{3, 1, 1, 1}, {3, 1, 2, 2}, {3, 1, 3, 3}, // some
		{3, 1, 4, 3}, {3, 1, math.MaxInt, 3}, {0, 1, 2, 0}, // more than there is
		{5, 2, 4, 3}, {5, 2, 3, 3}, {5, 4, math.MaxInt, 1}, {5, 5, 1, 0}, // more than there is room for
	} {
		from, to := newQueue(t, 6, rising(100, x.there)...), newQueue(t, 5, rising(1, x.held)...)
		if n := queue.Move(from, to, x.most); n != x.want {
			t.Fatalf("%+v: %d were moved", x, n)
		}
		wantTold(t, from, x.there-x.want, 6-x.there+x.want, false)
		wantTold(t, to, x.held+x.want, 5-x.held-x.want, false)
		if l := from.All(); !slices.Equal(l, rising(100+x.want, x.there-x.want)) {
			t.Fatalf("%+v: left %v", x, l)
		}
		if l := to.All(); !slices.Equal(l, slices.Concat(rising(1, x.held), rising(100, x.want))) {
			t.Fatalf("%+v: came to %v", x, l)
		}
	}
}

// P7.2: from a queue to itself nothing is moved, so its order stays.
func TestMoveSame(t *testing.T) {
	for _, most := range []int{-1, 0, 1, 3, math.MaxInt} {
		q := newQueue(t, 4, 1, 2, 3)
		if n := queue.Move(q, q, most); n != 0 {
			t.Fatal(most, n)
		}
		wantTold(t, q, 3, 1, false)
		wantTake(t, q, 1, 2, 3)
	}
}

// P7.2: from a queue that is closed things are moved, to one none are.
func TestMoveClosed(t *testing.T) {
	from, to := newQueue(t, 4, 1, 2, 3), newQueue(t, 4, 0)
	from.Close()
	if n := queue.Move(from, to, 2); n != 2 {
		t.Fatal(n)
	}
	wantTold(t, from, 1, 0, true)
	wantTold(t, to, 3, 1, false)
	to.Close()
	for _, most := range []int{1, math.MaxInt} {
		if n := queue.Move(from, to, most); n != 0 {
			t.Fatal(n)
		}
	}
	wantTold(t, from, 1, 0, true)
	wantTake(t, from, 3)
	wantTake(t, to, 0, 1, 2)
	wantEmpty(t, from)
	if n := queue.Move(from, newQueue[int](t, 4), 3); n != 0 {
		t.Fatal(n)
	}
}

// P7.2: from or to a Queue that no call made nothing is moved.
func TestMoveNil(t *testing.T) {
	for _, none := range []*queue.Queue[int]{nil, {}} {
		q := newQueue(t, 3, 1, 2)
		for _, most := range []int{-1, 0, 1, math.MaxInt} {
			if a, b, c := queue.Move(q, none, most), queue.Move(none, q, most), queue.Move(none, none, most); a != 0 || b != 0 || c != 0 {
				t.Fatal(most, a, b, c)
			}
		}
		wantTold(t, q, 2, 1, false)
		wantTake(t, q, 1, 2)
	}
}

// P7.2: of a Queue that no call made nothing is told or done.
func TestNil(t *testing.T) {
	for _, q := range []*queue.Queue[int]{nil, {}} {
		for range 2 {
			wantTold(t, q, 0, 0, true)
			wantEmpty(t, q)
			if q.Put(1) || q.Close() {
				t.Error("Put or Close")
			}
		}
	}
}

// checkType puts things of any type in, in two ways takes them out, and asks for one more.
func checkType[T any](t *testing.T, same func(a, b T) bool, things ...T) {
	t.Helper()
	var zero T
	things = append(things, zero)
	from, to := newQueue(t, len(things), things...), newQueue[T](t, len(things))
	if from.Put(zero) {
		t.Error("a thing too many")
	}
	if n := queue.Move(from, to, len(things)); n != len(things) {
		t.Error(n)
	}
	if x, there := from.Take(); !same(x, zero) || there {
		t.Error(x, there)
	}
	if x, there := to.Take(); !same(x, things[0]) || !there {
		t.Error(x, there)
	}
	if l := to.All(); !slices.EqualFunc(l, things[1:], same) {
		t.Error(l)
	}
}

func same[T comparable](a, b T) bool { return a == b }

// P7.1, P7.3: things are of any type, their zero value is one of them.
func TestTypes(t *testing.T) {
	checkType(t, same, 1, 0, -1)
	checkType(t, same, "", "a", "")
	checkType(t, same, false, true)
	checkType(t, same, struct{}{})
	checkType(t, same, api.Value{Kind: api.KindInt, N: 5}, api.Value{})
	checkType(t, same, new(int), nil, new(int))
	checkType(t, same, errors.New("a"), nil, error(oops{}))
	checkType(t, same, any(1), any("a"), nil)
	checkType(t, slices.Equal, []int{1, 2}, []int{}, nil, []int{3})
	checkType(t, func(a, b func() int) bool { return (a == nil) == (b == nil) && (a == nil || a() == b()) }, func() int { return 1 }, nil, func() int { return 2 })
	checkType(t, same, newQueue(t, 1, 5), nil)
	checkType(t, same, [1 << 17]byte{1}, [1 << 17]byte{0, 2})
}

// oops is an error that is no pointer.
type oops struct{}

func (oops) Error() string { return "one" }

// P7.3: queues are apart, what is put in is as it was then.
func TestApart(t *testing.T) {
	a, b := newQueue(t, 2, 1), newQueue(t, 2, 2)
	x := 3
	a.Put(x)
	x = 4
	b.Put(x)
	a.Close()
	wantTold(t, b, 2, 0, false)
	wantTake(t, a, 1, 3)
	wantTold(t, b, 2, 0, false)
	wantTake(t, b, 2, 4)
	if !b.Put(5) {
		t.Error("one queue is closed by another")
	}
}

// plain is a queue as the document says it, as a list.
type plain struct {
	room   int
	closed bool
	things []int
}

func (p *plain) left() int {
	if p.closed {
		return 0
	}
	return p.room - len(p.things)
}

func (p *plain) put(x int) bool {
	if p.left() == 0 {
		return false
	}
	p.things = append(p.things, x)
	return true
}

func (p *plain) take(most int) []int {
	n := min(most, len(p.things))
	l := p.things[:n:n]
	p.things = p.things[n:]
	return l
}

// P7.1, P7.2, P7.3: many calls in any order on some queues, held against plain ones.
func TestMany(t *testing.T) {
	for seed := range int64(60) {
		r := rand.New(rand.NewSource(seed))
		var got []*queue.Queue[int]
		var want []*plain
		for range 3 {
			room := 1 + r.Intn(1<<(seed%11))
			got, want = append(got, newQueue[int](t, room)), append(want, &plain{room: room})
		}
		for k := range 2000 {
			step(t, r, got, want, k)
		}
	}
}

// step does one call on both kinds of queues, and holds what they tell against each other.
func step(t *testing.T, r *rand.Rand, got []*queue.Queue[int], want []*plain, k int) {
	t.Helper()
	i := r.Intn(len(got))
	q, p := got[i], want[i]
	switch r.Intn(40) {
	case 0:
		if l := q.All(); !slices.Equal(l, p.take(p.room)) {
			t.Fatal("All", k, l)
		}
	case 1:
		if k < 1000 {
			return // most calls are on queues that are open
		}
		if q.Close() == p.closed {
			t.Fatal("Close", k)
		}
		p.closed = true
	case 2, 3, 4, 5:
		j, most := r.Intn(len(got)), r.Intn(9)-2
		n := 0
		if i != j {
			n = max(0, min(most, len(p.things), want[j].left()))
			want[j].things = append(want[j].things, p.take(n)...)
		}
		if m := queue.Move(q, got[j], most); m != n {
			t.Fatalf("Move = %d, not %d", m, n)
		}
	case 6, 7, 8, 9, 10, 11, 12, 13, 14, 15, 16, 17, 18, 19, 20:
		l := p.take(1)
		if x, there := q.Take(); there != (len(l) == 1) || there && x != l[0] || !there && x != 0 {
			t.Fatalf("Take = %d, %v, not %v", x, there, l)
		}
	default:
		if q.Put(k) != p.put(k) {
			t.Fatal("Put", k)
		}
	}
	for i, p := range want {
		wantTold(t, got[i], len(p.things), p.left(), p.closed)
	}
}
