package serial_test

import (
	"math"
	"math/big"
	"testing"

	"ferrybridge/serial"
)

const (
	greatest = 1<<32 - 1
	all      = 1 << 32
	half     = 1 << 31
)

// numbers are the edges, those about half of all, and some of all sorts.
func numbers() []uint32 {
	l := []uint32{0, 1, 2, 3, 4, 0xff, 0x100, 0xffff, 0x10000, half - 2, half - 1, half, half + 1, half + 2, greatest - 3, greatest - 2, greatest - 1, greatest}
	n := uint64(5)
	for range 60 {
		n = n*6364136223846793005 + 1442695040888963407
		l = append(l, uint32(n>>32))
	}
	return l
}

// counts are the edges of an int, and those about half of all numbers, all of them, and several times all of them.
func counts() []int {
	l := []int{math.MinInt, math.MinInt + 1, math.MinInt32, math.MaxInt32, math.MaxInt - 1, math.MaxInt}
	for _, near := range []int{0, half, all, all + half, 2 * all, 3 * all, 1 << 40, 1 << 62} {
		for off := -3; off <= 3; off++ {
			l = append(l, near+off, -near+off)
		}
	}
	return append(l, 1000003, -1000003, 123456789012345678, -123456789012345678)
}

// far are how many steps away a number is tried.
var far = []int64{0, 1, 2, 3, 1000, half - 2, half - 1, half, half + 1, half + 2, greatest - 2, greatest - 1, greatest}

// referenceSteps tells steps by another way than the program's: by wide numbers that don't go round.
func referenceSteps(a, b uint32) int64 {
	if a <= b {
		return int64(b) - int64(a)
	}
	return all - int64(a) + int64(b)
}

// referenceOn tells a number n steps behind a by numbers that have no greatest one.
func referenceOn(a uint32, n int) uint32 {
	sum := new(big.Int).Add(big.NewInt(int64(a)), big.NewInt(int64(n)))
	return uint32(sum.Mod(sum, big.NewInt(all)).Uint64())
}

// away is the number some steps behind a.
func away(a uint32, steps int64) uint32 {
	return uint32((int64(a) + steps) % all)
}

func referenceBefore(a, b uint32) bool {
	n := referenceSteps(a, b)
	return n >= 1 && n < half
}

func referenceLater(a, b uint32) uint32 {
	if referenceBefore(a, b) {
		return b
	}
	return a
}

func referenceIn(x, from uint32, n int) bool {
	switch {
	case n < 1:
		return false
	case n > all:
		return true
	}
	return referenceSteps(from, x) <= int64(n-1)
}

// P6.1, the chapter's example

func TestExample(t *testing.T) {
	if !serial.Before(greatest, 3) {
		t.Error("Before(2^32 - 1, 3): no")
	}
}

// P6.1, Steps

func TestStepsAreAsWritten(t *testing.T) {
	for _, c := range []struct {
		a, b uint32
		want int
	}{
		// alike
		{0, 0, 0},
		{7, 7, 0},
		{half, half, 0},
		{greatest, greatest, 0},
		// b behind a
		{0, 1, 1},
		{3, 5, 2},
		{0, greatest, greatest},
		{1, greatest, greatest - 1},
		// b ahead of a
		{1, 0, greatest},
		{5, 3, greatest - 1},
		{greatest, greatest - 1, greatest},
		// just under half of all away, at half, just over it
		{0, half - 1, half - 1},
		{0, half, half},
		{0, half + 1, half + 1},
		{10, half + 9, half - 1},
		{10, half + 10, half},
		{10, half + 11, half + 1},
		{half + 1, 0, half - 1},
		{half, 0, half},
		{half - 1, 0, half + 1},
		// round the greatest number
		{greatest, 0, 1},
		{greatest, 1, 2},
		{greatest - 2, 2, 5},
		{greatest, half - 2, half - 1},
		{greatest, half - 1, half},
		{greatest, half, half + 1},
	} {
		if got := serial.Steps(c.a, c.b); got != c.want {
			t.Errorf("Steps(%d, %d): %d, not %d", c.a, c.b, got, c.want)
		}
	}
}

func TestStepsAreAsReckoned(t *testing.T) {
	for _, a := range numbers() {
		for _, b := range numbers() {
			if got, want := serial.Steps(a, b), referenceSteps(a, b); int64(got) != want {
				t.Errorf("Steps(%d, %d): %d, not %d", a, b, got, want)
			}
		}
		for _, n := range far {
			if b := away(a, n); int64(serial.Steps(a, b)) != n {
				t.Errorf("Steps(%d, %d): %d, not %d", a, b, serial.Steps(a, b), n)
			}
		}
	}
}

// There and back is once round, or no step at all.
func TestStepsThereAndBack(t *testing.T) {
	for _, a := range numbers() {
		for _, b := range numbers() {
			want := all
			if a == b {
				want = 0
			}
			if got := serial.Steps(a, b) + serial.Steps(b, a); got != want {
				t.Errorf("%d and %d: %d steps there and back", a, b, got)
			}
		}
	}
}

// P6.1, Before

func TestBeforeAtEachEdge(t *testing.T) {
	for _, c := range []struct {
		steps int64
		want  bool
	}{
		{0, false},
		{1, true},
		{2, true},
		{half - 2, true},
		{half - 1, true},
		{half, false},
		{half + 1, false},
		{half + 2, false},
		{greatest - 1, false},
		{greatest, false},
	} {
		for _, a := range numbers() {
			if b := away(a, c.steps); serial.Before(a, b) != c.want {
				t.Errorf("Before(%d, %d), %d steps: %v", a, b, c.steps, !c.want)
			}
		}
	}
}

func TestBeforeIsAsReckoned(t *testing.T) {
	for _, a := range numbers() {
		for _, b := range numbers() {
			if got, want := serial.Before(a, b), referenceBefore(a, b); got != want {
				t.Errorf("Before(%d, %d): %v", a, b, got)
			}
		}
	}
}

// Of two that differ one is before the other, and the other isn't before it; but if they are half of all away, neither is.
func TestOneIsBeforeTheOther(t *testing.T) {
	for _, a := range numbers() {
		for _, n := range far {
			b := away(a, n)
			there, back := serial.Before(a, b), serial.Before(b, a)
			if n == 0 || n == half {
				if there || back {
					t.Errorf("%d and %d: before %v, %v", a, b, there, back)
				}
			} else if there == back {
				t.Errorf("%d and %d: before %v both ways", a, b, there)
			}
		}
	}
}

// P6.1, Later

func TestLaterIsAsWritten(t *testing.T) {
	for _, c := range []struct{ a, b, want uint32 }{
		// a is before b
		{1, 2, 2},
		{0, half - 1, half - 1},
		{greatest, 0, 0},
		{greatest - 2, 5, 5},
		{half + 1, 0, 0},
		// b is before a
		{2, 1, 2},
		{half - 1, 0, half - 1},
		{0, greatest, 0},
		{5, greatest - 2, 5},
		{0, half + 1, 0},
		// neither is
		{0, half, 0},
		{half, 0, half},
		{5, half + 5, 5},
		{half + 5, 5, half + 5},
		{greatest, half - 1, greatest},
		{half - 1, greatest, half - 1},
		// the same
		{0, 0, 0},
		{9, 9, 9},
		{half, half, half},
		{greatest, greatest, greatest},
	} {
		if got := serial.Later(c.a, c.b); got != c.want {
			t.Errorf("Later(%d, %d): %d, not %d", c.a, c.b, got, c.want)
		}
	}
}

func TestLaterIsAsReckoned(t *testing.T) {
	for _, a := range numbers() {
		for _, b := range numbers() {
			if got, want := serial.Later(a, b), referenceLater(a, b); got != want {
				t.Errorf("Later(%d, %d): %d, not %d", a, b, got, want)
			}
		}
		for _, n := range far {
			b := away(a, n)
			if got, want := serial.Later(a, b), referenceLater(a, b); got != want {
				t.Errorf("Later(%d, %d), %d steps: %d, not %d", a, b, n, got, want)
			}
		}
	}
}

// P6.1, In

func TestInIsAsWritten(t *testing.T) {
	for _, c := range []struct {
		x, from uint32
		n       int
		want    bool
	}{
		{5, 5, math.MinInt, false},
		{5, 5, -all, false},
		{5, 5, -1, false},
		{5, 5, 0, false},
		{6, 5, 0, false},
		{4, 5, 0, false},
		{5, 5, 1, true},
		{6, 5, 1, false},
		{4, 5, 1, false},
		{5, 5, 3, true},
		{7, 5, 3, true},
		{8, 5, 3, false},
		{4, 5, 3, false},
		{greatest, greatest, 1, true},
		{0, greatest, 1, false},
		{0, greatest, 2, true},
		{1, greatest, 2, false},
		{greatest - 1, greatest, 2, false},
		{greatest, greatest - 1, 4, true},
		{1, greatest - 1, 4, true},
		{2, greatest - 1, 4, false},
		{4, 5, greatest, false},
		{3, 5, greatest, true},
		{5, 5, greatest, true},
		{greatest, 0, greatest, false},
		{greatest - 1, 0, greatest, true},
		{4, 5, all, true},
		{5, 5, all, true},
		{greatest, 0, all, true},
		{4, 5, all + 1, true},
		{greatest, 0, all + 1, true},
		{greatest, 0, 2 * all, true},
		{4, 5, math.MaxInt, true},
		{greatest, 0, math.MaxInt, true},
	} {
		if got := serial.In(c.x, c.from, c.n); got != c.want {
			t.Errorf("In(%d, %d, %d): %v", c.x, c.from, c.n, got)
		}
	}
}

// The first of the numbers, the last one, the one ahead of the first and the one behind the last.
func TestInAtEachEnd(t *testing.T) {
	for _, from := range numbers() {
		for _, n := range []int64{1, 2, 3, 32, 1000, half - 1, half, half + 1, greatest - 1, greatest} {
			for _, c := range []struct {
				steps int64
				want  bool
			}{{0, true}, {n / 2, true}, {n - 1, true}, {n, false}, {greatest, false}} {
				if x := away(from, c.steps); serial.In(x, from, int(n)) != c.want {
					t.Errorf("In(%d, %d, %d): %v", x, from, n, !c.want)
				}
			}
		}
	}
}

func TestInOfNoneAndOfAll(t *testing.T) {
	for _, from := range numbers() {
		for _, steps := range far {
			x := away(from, steps)
			for _, n := range []int{math.MinInt, math.MinInt + 1, -all - 1, -all, 1 - all, -half, -1, 0} {
				if serial.In(x, from, n) {
					t.Errorf("In(%d, %d, %d): yes", x, from, n)
				}
			}
			for _, n := range []int{all, all + 1, all + half, 2 * all, 2*all + 1, 1 << 62, math.MaxInt - 1, math.MaxInt} {
				if !serial.In(x, from, n) {
					t.Errorf("In(%d, %d, %d): no", x, from, n)
				}
			}
		}
	}
}

func TestInIsAsReckoned(t *testing.T) {
	for _, from := range numbers() {
		for _, x := range numbers() {
			for _, n := range counts() {
				if got, want := serial.In(x, from, n), referenceIn(x, from, n); got != want {
					t.Errorf("In(%d, %d, %d): %v", x, from, n, got)
				}
			}
		}
	}
}

// Some numbers, gone through one by one, are told, and none beside them.
func TestInOfNumbersOneByOne(t *testing.T) {
	for _, from := range []uint32{0, 1, half - 4, half, greatest - 9, greatest - 3, greatest} {
		for n := range 8 {
			told := map[uint32]bool{}
			x := from
			for range n {
				told[x] = true
				x++
			}
			x = from - 20
			for range 50 {
				if got := serial.In(x, from, n); got != told[x] {
					t.Errorf("In(%d, %d, %d): %v", x, from, n, got)
				}
				x++
			}
		}
	}
}

// P6.1, On

func TestOnIsAsWritten(t *testing.T) {
	for _, c := range []struct {
		a    uint32
		n    int
		want uint32
	}{
		// no steps
		{0, 0, 0},
		{7, 0, 7},
		{greatest, 0, greatest},
		// on
		{0, 1, 1},
		{5, 3, 8},
		{greatest, 1, 0},
		{greatest, 2, 1},
		{greatest - 2, 5, 2},
		{0, half, half},
		{half, half, 0},
		{0, greatest, greatest},
		{1, greatest, 0},
		// back
		{1, -1, 0},
		{8, -3, 5},
		{0, -1, greatest},
		{1, -2, greatest},
		{2, -5, greatest - 2},
		{0, -half, half},
		{half, -half, 0},
		{greatest, -greatest, 0},
		{0, -greatest, 1},
		// once round, and more
		{7, all, 7},
		{7, -all, 7},
		{7, all + 1, 8},
		{7, -all - 1, 6},
		{7, all - 1, 6},
		{7, 1 - all, 8},
		{greatest, all + 1, 0},
		{0, -all - 1, greatest},
		{7, 3*all + 5, 12},
		{7, -3*all - 8, greatest},
		// the least int and the greatest one
		{0, math.MinInt, 0},
		{7, math.MinInt, 7},
		{greatest, math.MinInt, greatest},
		{7, math.MinInt + 1, 8},
		{0, math.MaxInt, greatest},
		{7, math.MaxInt, 6},
		{greatest, math.MaxInt, greatest - 1},
		{7, math.MaxInt - 1, 5},
	} {
		if got := serial.On(c.a, c.n); got != c.want {
			t.Errorf("On(%d, %d): %d, not %d", c.a, c.n, got, c.want)
		}
	}
}

func TestOnIsAsReckoned(t *testing.T) {
	for _, a := range numbers() {
		for _, n := range counts() {
			if got, want := serial.On(a, n), referenceOn(a, n); got != want {
				t.Errorf("On(%d, %d): %d, not %d", a, n, got, want)
			}
		}
	}
}

// What the steps from a to b lead to is b; and as many back are a again.
func TestOnAndBack(t *testing.T) {
	for _, a := range numbers() {
		for _, b := range numbers() {
			n := serial.Steps(a, b)
			if got := serial.On(a, n); got != b {
				t.Errorf("On(%d, %d): %d, not %d", a, n, got, b)
			}
			if got := serial.On(b, -n); got != a {
				t.Errorf("On(%d, %d): %d, not %d", b, -n, got, a)
			}
		}
	}
}

// R1, R5

// answers are what all five calls answer.
type answers struct {
	steps  int
	before bool
	later  uint32
	in     bool
	on     uint32
}

func ask(a, b uint32, n int) answers {
	return answers{serial.Steps(a, b), serial.Before(a, b), serial.Later(a, b), serial.In(a, b, n), serial.On(a, n)}
}

// Asked again each call answers likewise, whatever was asked between.
func TestSameArgumentsSameAnswers(t *testing.T) {
	for _, a := range numbers() {
		for _, b := range numbers() {
			for _, n := range counts() {
				first := ask(a, b, n)
				ask(b, a, -n)
				ask(^a, ^b, n/2)
				ask(greatest, 0, math.MinInt)
				if again := ask(a, b, n); again != first {
					t.Errorf("of %d, %d, %d: %v, %v", a, b, n, first, again)
				}
			}
		}
	}
}
