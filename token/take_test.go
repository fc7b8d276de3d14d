package token_test

import (
	"math"
	"slices"
	"testing"

	"ferrybridge/api"
	"ferrybridge/key"
	"ferrybridge/token"
)

// taken holds what Take answers against what is written.
func (b both) taken(owner int, keys []uint64, key uint64, ahead int, want api.Errno) {
	b.t.Helper()
	if k, n, e := b.x.Take(owner, keys...); k != key || n != ahead || e != want {
		b.t.Errorf("Take(%d, %d): %d, %d, %d, not %d, %d, %d", owner, keys, k, n, e, key, ahead, want)
	}
	b.p.take(owner, keys...)
	b.look()
}

// some is a table in which the tokens of the keys from 11 on are live, and those of the keys from 21 on are quarantined.
func some(t *testing.T, capacity, live, freed int) both {
	t.Helper()
	b := newBoth(t, capacity)
	for i, k := range upTo(11, live) {
		b.take(100+i, k)
	}
	for i, k := range upTo(21, freed) {
		b.take(i, k)
		b.free(of(k), i)
	}
	b.look()
	return b
}

// What the other tests rely on.
func TestKeysAreAsTold(t *testing.T) {
	for _, c := range ends {
		if of(c.key) != c.token || key.Token(c.key) != c.token {
			t.Errorf("%d: %08x, %08x, not %08x", c.key, of(c.key), key.Token(c.key), c.token)
		}
	}
	for _, two := range twins {
		if two[0] == two[1] || of(two[0]) != of(two[1]) || key.Token(two[0]) != key.Token(two[1]) {
			t.Errorf("%d aren't unlike keys of one token", two)
		}
	}
}

// The chapter's example

func TestExample(t *testing.T) {
	b := newBoth(t, 4)
	b.taken(1, []uint64{5}, 5, 0, api.OK)
	b.taken(2, []uint64{5, 6}, 6, 1, api.OK)
	if owner, live := b.x.Find(of(6)); owner != 2 || !live {
		t.Error(owner, live)
	}
}

// P10.1, New

var capacities = []struct{ given, want int }{
	{math.MinInt, 1}, {math.MinInt + 1, 1}, {-1 << 32, 1}, {-64, 1}, {-1, 1}, {0, 1},
	{1, 1}, {2, 2}, {3, 3}, {4, 4}, {10, 10}, {32, 32}, {62, 62}, {63, 63}, {64, 64},
	{65, 64}, {66, 64}, {127, 64}, {128, 64}, {129, 64}, {1 << 31, 64}, {1 << 32, 64}, {1<<32 + 5, 64}, {math.MaxInt - 1, 64}, {math.MaxInt, 64},
}

func TestNewIsEmpty(t *testing.T) {
	for _, c := range capacities {
		b := newBoth(t, c.given)
		for _, tick := range []int{math.MinInt, -1, 0, 10, math.MaxInt} {
			if n := b.x.Tick(tick); n != 0 {
				t.Errorf("New(%d), then Tick(%d): %d", c.given, tick, n)
			}
		}
		for _, which := range []uint32{0, 1, of(1), 1<<32 - 1} {
			if e := b.x.Free(which, 0); e != api.ErrNone {
				t.Errorf("New(%d), then Free(%08x): %d", c.given, which, e)
			}
		}
		b.taken(1, nil, 0, 0, api.ErrNone)
		b.taken(1, []uint64{1}, 1, 0, api.OK)
	}
}

// There is just as much room as the capacity tells, and what is quarantined takes room too.
func TestCapacityIsHeldWithin(t *testing.T) {
	for _, c := range capacities {
		b, keys := newBoth(t, c.given), upTo(1000, c.want)
		for i, k := range keys {
			b.taken(i, []uint64{k}, k, 0, api.OK)
		}
		full(b, keys)
		for i, k := range keys {
			b.free(of(k), 100+i)
			b.look()
		}
		full(b, keys)
		b.tick(109)
		full(b, keys)
		for i := range keys {
			b.tick(110 + i)
			b.look()
			if l := b.x.All(); len(l) != c.want-1 {
				t.Errorf("New(%d): %d entries behind %d that are gone", c.given, len(l), i+1)
			}
			b.taken(-1, []uint64{uint64(i)}, uint64(i), 0, api.OK)
			full(b, keys)
		}
	}
}

// full asks where there is no room: for no key, for keys that are nobody's, and for others.
func full(b both, keys []uint64) {
	b.t.Helper()
	for _, l := range [][]uint64{nil, {}, {1 << 40}, {1<<64 - 1, 1 << 41}, {keys[0]}, {keys[0], keys[0]}, {keys[0], 1 << 40}, keys} {
		b.taken(5, l, 0, 0, api.ErrTable)
	}
}

// P10.1, Take

type answer struct {
	key   uint64
	ahead int
	e     api.Errno
}

func TestTakeIsAsWritten(t *testing.T) {
	for _, c := range []struct {
		keys        []uint64
		empty, with answer // of an empty table, and of one with entries
	}{
		{nil, answer{0, 0, api.ErrNone}, answer{0, 0, api.ErrNone}},
		{[]uint64{}, answer{0, 0, api.ErrNone}, answer{0, 0, api.ErrNone}},
		{[]uint64{0}, answer{0, 0, api.OK}, answer{0, 0, api.OK}},
		{[]uint64{1}, answer{1, 0, api.OK}, answer{1, 0, api.OK}},
		{[]uint64{1<<64 - 1}, answer{1<<64 - 1, 0, api.OK}, answer{1<<64 - 1, 0, api.OK}},
		{[]uint64{1 << 32, 1}, answer{1 << 32, 0, api.OK}, answer{1 << 32, 0, api.OK}},
		{[]uint64{1, 2, 3}, answer{1, 0, api.OK}, answer{1, 0, api.OK}},
		{[]uint64{3, 2, 1}, answer{3, 0, api.OK}, answer{3, 0, api.OK}},
		{[]uint64{1, 1}, answer{1, 0, api.OK}, answer{1, 0, api.OK}},
		{[]uint64{11}, answer{11, 0, api.OK}, answer{0, 1, api.ErrNone}},
		{[]uint64{21}, answer{21, 0, api.OK}, answer{0, 1, api.ErrNone}},
		{[]uint64{11, 11}, answer{11, 0, api.OK}, answer{0, 2, api.ErrNone}},
		{[]uint64{21, 21, 21}, answer{21, 0, api.OK}, answer{0, 3, api.ErrNone}},
		{[]uint64{11, 21, 12, 22}, answer{11, 0, api.OK}, answer{0, 4, api.ErrNone}},
		{[]uint64{1, 11, 21}, answer{1, 0, api.OK}, answer{1, 0, api.OK}},
		{[]uint64{11, 1, 21}, answer{11, 0, api.OK}, answer{1, 1, api.OK}},
		{[]uint64{11, 21, 1}, answer{11, 0, api.OK}, answer{1, 2, api.OK}},
		{[]uint64{21, 11, 0}, answer{21, 0, api.OK}, answer{0, 2, api.OK}},
		{[]uint64{21, 1, 2}, answer{21, 0, api.OK}, answer{1, 1, api.OK}},
		{[]uint64{12, 12, 21, 22, 11, 13, 1, 2, 1}, answer{12, 0, api.OK}, answer{13, 5, api.OK}},
		{[]uint64{11, 1, 1}, answer{11, 0, api.OK}, answer{1, 1, api.OK}},
		{[]uint64{22, 22, 1, 11}, answer{22, 0, api.OK}, answer{1, 2, api.OK}},
	} {
		newBoth(t, 5).taken(9, c.keys, c.empty.key, c.empty.ahead, c.empty.e)
		some(t, 5, 2, 2).taken(9, c.keys, c.with.key, c.with.ahead, c.with.e)
		for freed := range 5 {
			some(t, 4, 4-freed, freed).taken(9, c.keys, 0, 0, api.ErrTable)
		}
	}
}

// Of a table that has one entry, live or quarantined.
func TestTakeBesideOne(t *testing.T) {
	for freed := range 2 {
		for _, c := range []struct {
			keys []uint64
			answer
		}{
			{nil, answer{0, 0, api.ErrNone}},
			{[]uint64{11 + 10*uint64(freed)}, answer{0, 1, api.ErrNone}},
			{[]uint64{11 + 10*uint64(freed), 5}, answer{5, 1, api.OK}},
			{[]uint64{21 - 10*uint64(freed)}, answer{21 - 10*uint64(freed), 0, api.OK}},
		} {
			b := some(t, 2, 1-freed, freed)
			b.taken(-3, c.keys, c.key, c.ahead, c.e)
			some(t, 1, 1-freed, freed).taken(-3, c.keys, 0, 0, api.ErrTable)
		}
	}
}

// Where one of so many keys can be taken it is that one, and all that stand ahead of it were not.
func TestTakeOfEachPlace(t *testing.T) {
	given := append(upTo(11, 6), upTo(21, 6)...)
	for many := range len(given) + 1 {
		for place := range many + 1 {
			keys := slices.Insert(slices.Clone(given[:many]), place, 77)
			b := some(t, 20, 6, 6)
			b.taken(many, keys, 77, place, api.OK)
			b.taken(many, keys, 0, many+1, api.ErrNone)
			b.free(of(77), 50)
			b.taken(many, keys, 0, many+1, api.ErrNone)
		}
	}
}

// The one that is taken is the first that can be, of several too.
func TestTakeOfSeveralThatCanBe(t *testing.T) {
	for place := range 13 {
		keys := append(upTo(11, 6), upTo(21, 6)...)
		keys = append(slices.Insert(keys, place, 79), 78, 77, 79)
		b := some(t, 20, 6, 6)
		b.taken(1, keys, 79, place, api.OK)
		b.taken(2, keys, 78, 13, api.OK)
		b.taken(3, keys, 77, 14, api.OK)
		b.taken(4, keys, 0, 16, api.ErrNone)
	}
}

// It is the tokens that are held against each other, not the keys.
func TestTakeOfUnlikeKeysOfOneToken(t *testing.T) {
	for _, two := range twins {
		for range 2 {
			one, other := two[0], two[1]
			b := newBoth(t, 3)
			b.taken(1, []uint64{one}, one, 0, api.OK)
			b.taken(2, []uint64{other}, 0, 1, api.ErrNone)
			b.taken(2, []uint64{other, one, other}, 0, 3, api.ErrNone)
			b.taken(2, []uint64{other, one, 8}, 8, 2, api.OK)
			b.free(of(other), 5)
			b.taken(3, []uint64{other, one}, 0, 2, api.ErrNone)
			b.tick(14)
			b.taken(3, []uint64{one, other}, 0, 2, api.ErrNone)
			b.tick(15)
			b.taken(3, []uint64{other, one}, other, 0, api.OK)
			b.taken(4, []uint64{one, other}, 0, 2, api.ErrNone)
			newBoth(t, 3).taken(5, []uint64{one, other}, one, 0, api.OK)
			two[0], two[1] = other, one
		}
	}
}

// Each owner, beside others, and with several tokens.
func TestTakeOfEachOwner(t *testing.T) {
	b := newBoth(t, 40)
	for i, owner := range owners {
		b.taken(owner, []uint64{uint64(i)}, uint64(i), 0, api.OK)
		if got, live := b.x.Find(of(uint64(i))); got != owner || !live {
			t.Errorf("Find: %d, %v, not %d", got, live, owner)
		}
	}
	for i, owner := range owners {
		b.taken(owner, []uint64{0, 100 + uint64(i)}, 100+uint64(i), 1, api.OK)
		b.taken(owner, []uint64{uint64(i)}, 0, 1, api.ErrNone)
	}
	for i := range owners {
		b.free(of(uint64(i)), 3)
		b.look()
	}
	b.tick(13)
	b.look()
}

// R1

// Take ends, of very many keys too.
func TestTakeOfMany(t *testing.T) {
	const many = 200000
	keys := make([]uint64, many)
	for i := range keys {
		keys[i] = uint64(i % 3)
	}
	x := token.New(4)
	for k := range uint64(3) {
		x.Take(1, k)
	}
	if k, n, e := x.Take(1, keys...); k != 0 || n != many || e != api.ErrNone {
		t.Error(k, n, e)
	}
	keys[many-1] = 3
	if k, n, e := x.Take(1, keys...); k != 3 || n != many-1 || e != api.OK {
		t.Error(k, n, e)
	}
	if k, n, e := x.Take(1, keys...); k != 0 || n != 0 || e != api.ErrTable {
		t.Error(k, n, e)
	}
}
