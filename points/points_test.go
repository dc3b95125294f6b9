package points

import (
	"bytes"
	"math"
	"slices"
	"testing"

	"starfish/api"
	"starfish/field"
)

// kinds are fields of all origins, made anew by each call.
func kinds() map[string]*field.Field {
	return map[string]*field.Field{"made by New": field.New(), "nil": nil, "zero": {}}
}

// divisors are all r above 0 for which groups of r and one divide the 255 points.
var divisors = []int{2, 4, 14, 16, 50, 84, 254}

// huge are numbers far below 0 and far above all limits; some of them are right again if one is added, or if only their low bits are taken.
var huge = []int{math.MinInt, math.MinInt + 1, math.MinInt32, -1 << 16, -256, -255, -254, -2, -1, 1 << 8, 1<<8 + 2, 1 << 16, 1<<16 + 2, math.MaxInt32, math.MaxInt - 1, math.MaxInt}

// powerOf2 doubles 1 n times, as the definition of the field says.
func powerOf2(n int) byte {
	out := 1
	for range n {
		out *= 2
		if out > 255 {
			out ^= 285
		}
	}
	return byte(out)
}

// first returns the n points by their definition.
func first(n int) []byte {
	out := make([]byte, n)
	for i := range out {
		out[i] = powerOf2(i)
	}
	return out
}

// cosets returns the points of groups by their definition.
func cosets(r, groups int) []byte {
	var out []byte
	for c := range groups {
		for e := range r + 1 {
			out = append(out, powerOf2(c+255/(r+1)*e))
		}
	}
	return out
}

// power multiplies n equal factors; layer 3 has tests of its own.
func power(x byte, n int) byte {
	f, out := field.New(), byte(1)
	for range n {
		out = f.Mul(out, x)
	}
	return out
}

// greatest searches the greatest number that divides both.
func greatest(a, b int) int {
	out := 1
	for d := 1; d <= a && d <= b; d++ {
		if a%d == 0 && b%d == 0 {
			out = d
		}
	}
	return out
}

// repeated tells how often the number that is there most often is there.
func repeated(xs []byte) int {
	var count [256]int
	for _, x := range xs {
		count[x]++
	}
	return slices.Max(count[:])
}

// right reports a result that is not exactly these points, without an error.
func right(t *testing.T, got []byte, e api.Errno, want []byte, call string, about ...any) {
	t.Helper()
	if !bytes.Equal(got, want) || e != api.OK {
		t.Errorf("%s of %v: %v, %d, want %v", call, about, got, e, want)
	}
}

// wrong reports a result that is not ErrArg alone.
func wrong(t *testing.T, got []byte, e api.Errno, call string, about ...any) {
	t.Helper()
	if len(got) != 0 || e != api.ErrArg {
		t.Errorf("%s of %v: %v, %d, want ErrArg", call, about, got, e)
	}
}

// Examples.
func TestExamples(t *testing.T) {
	for name, f := range kinds() {
		got, e := Of(f, 9)
		right(t, got, e, []byte{1, 2, 4, 8, 16, 32, 64, 128, 29}, "Of", name, 9)
		got, e = Of(f, 256)
		wrong(t, got, e, "Of", name, 256)
		if got, e := Spread(f, 85, 3); len(got) != 85 || e != api.OK {
			t.Errorf("%s: Spread(85, 3): %v, %d", name, got, e)
		}
		got, e = Spread(f, 86, 3)
		wrong(t, got, e, "Spread", name, 86, 3)
		got, e = Cosets(f, 3, 1)
		wrong(t, got, e, "Cosets", name, 3, 1)
	}
	if got := Group(2, 4); !slices.Equal(got, []int{3, 5}) {
		t.Errorf("Group(2, 4): %v", got)
	}
	if got := Group(2, 0); !slices.Equal(got, []int{1, 2}) {
		t.Errorf("Group(2, 0): %v", got)
	}
}

// P6.1: the n points, from none to all of them.
func TestOf(t *testing.T) {
	for name, f := range kinds() {
		for n := range 256 {
			got, e := Of(f, n)
			right(t, got, e, first(n), "Of", name, n)
		}
	}
}

// P6.1: fewer points than none, and more than there are.
func TestOfWrongNumbers(t *testing.T) {
	for name, f := range kinds() {
		for _, n := range append([]int{257, 300, 510}, huge...) {
			got, e := Of(f, n)
			wrong(t, got, e, "Of", name, n)
		}
	}
}

// P6.2: the n points, up to as many as alpha permits, and not one more.
func TestSpread(t *testing.T) {
	for name, f := range kinds() {
		for alpha := 1; alpha <= 255; alpha++ {
			limit := 255 / greatest(alpha, 255)
			for _, n := range []int{0, 1, limit / 2, limit - 1, limit} {
				got, e := Spread(f, n, alpha)
				right(t, got, e, first(n), "Spread", name, n, alpha)
			}
			for _, n := range append([]int{limit + 1, limit + 2, 2 * limit, 256}, huge...) {
				if n < 0 || n > limit { // twice a limit is none
					got, e := Spread(f, n, alpha)
					wrong(t, got, e, "Spread", name, n, alpha)
				}
			}
		}
	}
}

// P6.2: each number of points, for powers that have divisors in common with 255, and for ones that have none.
func TestSpreadOfEachNumber(t *testing.T) {
	f := field.New()
	for _, x := range []struct{ alpha, limit int }{
		{1, 255}, {2, 255}, {4, 255}, {7, 255}, {254, 255}, {3, 85}, {6, 85}, {252, 85}, {5, 51}, {10, 51}, {15, 17}, {17, 15}, {34, 15}, {51, 5}, {85, 3}, {170, 3}, {255, 1},
	} {
		for n := -2; n <= 257; n++ {
			got, e := Spread(f, n, x.alpha)
			if n >= 0 && n <= x.limit {
				right(t, got, e, first(n), "Spread", n, x.alpha)
			} else {
				wrong(t, got, e, "Spread", n, x.alpha)
			}
		}
	}
}

// P6.2: powers below 1, and above 255, also for no points.
func TestSpreadWrongPowers(t *testing.T) {
	for name, f := range kinds() {
		for _, alpha := range append([]int{0, 257, 258, 510, 511}, huge...) {
			for _, n := range []int{-1, 0, 1, 2, 255, 256} {
				got, e := Spread(f, n, alpha)
				wrong(t, got, e, "Spread", name, n, alpha)
			}
		}
	}
}

// P6.3: the points of groups, from no group to all of them, and not one more.
func TestCosets(t *testing.T) {
	for name, f := range kinds() {
		for _, r := range divisors {
			limit := 255 / (r + 1)
			for groups := range limit + 1 {
				got, e := Cosets(f, r, groups)
				right(t, got, e, cosets(r, groups), "Cosets", name, r, groups)
			}
			for _, groups := range append([]int{limit + 1, limit + 2, 255}, huge...) {
				got, e := Cosets(f, r, groups)
				wrong(t, got, e, "Cosets", name, r, groups)
			}
		}
	}
}

// P6.3: some points of groups that are known.
func TestCosetsOfKnown(t *testing.T) {
	for name, f := range kinds() {
		got, e := Cosets(f, 2, 2)
		right(t, got, e, []byte{1, 214, 215, 2, 177, 179}, "Cosets", name, 2, 2)
		got, e = Cosets(f, 254, 1)
		right(t, got, e, first(255), "Cosets", name, 254, 1)
		got, e = Cosets(f, 254, 0)
		right(t, got, e, nil, "Cosets", name, 254, 0)
	}
}

// P6.3: sizes of groups that don't divide 255, of one point, and of fewer, also for no group.
func TestCosetsWrongSizes(t *testing.T) {
	for name, f := range kinds() {
		sizes := slices.Clone(huge)
		for r := -5; r <= 515; r++ {
			if !slices.Contains(divisors, r) {
				sizes = append(sizes, r)
			}
		}
		for _, r := range sizes {
			for _, groups := range []int{-1, 0, 1, 2} {
				got, e := Cosets(f, r, groups)
				wrong(t, got, e, "Cosets", name, r, groups)
			}
		}
	}
}

// neighbours searches the indices below a limit that are in the same group as i, except i.
func neighbours(r, i, limit int) []int {
	var out []int
	for j := range limit {
		if j != i && j/(r+1) == i/(r+1) {
			out = append(out, j)
		}
	}
	return out
}

// P6.4: the others of the group, for its first point, its last one and those between; for any r up to 255, and groups that Cosets does not have.
func TestGroup(t *testing.T) {
	for r := 1; r <= 255; r++ {
		for _, i := range []int{0, 1, r - 1, r, r + 1, r + 2, 2*r + 1, 2*r + 2, 254, 255, 256, 1000} {
			want := neighbours(r, i, 1600)
			if got := Group(r, i); !slices.Equal(got, want) || len(got) != r {
				t.Errorf("Group(%d, %d): %v, want %v", r, i, got, want)
			}
		}
	}
	for _, r := range divisors {
		for i := range 256 {
			if got, want := Group(r, i), neighbours(r, i, 600); !slices.Equal(got, want) {
				t.Errorf("Group(%d, %d): %v, want %v", r, i, got, want)
			}
		}
	}
}

// P6.4: some groups that are known.
func TestGroupOfKnown(t *testing.T) {
	for _, x := range []struct {
		r, i int
		want []int
	}{
		{1, 0, []int{1}}, {1, 1, []int{0}}, {1, 7, []int{6}}, {2, 1, []int{0, 2}}, {2, 2, []int{0, 1}}, {2, 3, []int{4, 5}}, {2, 254, []int{252, 253}},
		{2, 255, []int{256, 257}}, {3, 6, []int{4, 5, 7}}, {4, 9, []int{5, 6, 7, 8}}, {2, 3000000, []int{3000001, 3000002}},
	} {
		if got := Group(x.r, x.i); !slices.Equal(got, x.want) {
			t.Errorf("Group(%d, %d): %v, want %v", x.r, x.i, got, x.want)
		}
	}
}

// P6.4: nothing for r below 1 or above 255, and for i below 0.
func TestGroupOfNothing(t *testing.T) {
	for _, i := range append([]int{0, 1, 2, 255}, huge...) {
		for _, r := range append([]int{0, 257, 511}, huge...) {
			if got := Group(r, i); len(got) != 0 {
				t.Errorf("Group(%d, %d): %v", r, i, got)
			}
		}
	}
	for _, i := range huge {
		for _, r := range []int{1, 2, 3, 254, 255} {
			if got := Group(r, i); i < 0 && len(got) != 0 {
				t.Errorf("Group(%d, %d): %v", r, i, got)
			}
		}
	}
}

// P6.4: a group at the end of ints has no indices beyond them.
func TestGroupAtTheEndOfInts(t *testing.T) {
	for r := 1; r <= 255; r++ {
		for back := range 600 {
			i := math.MaxInt - back
			begin := i - i%(r+1)
			var want []int
			for j := begin; j-begin <= r; j++ {
				if j != i {
					want = append(want, j)
				}
				if j == math.MaxInt {
					break
				}
			}
			if got := Group(r, i); !slices.Equal(got, want) {
				t.Errorf("Group(%d, %d): %v, want %v", r, i, got, want)
			}
		}
	}
}

// lists makes each call that returns points.
func lists(f *field.Field) [][]byte {
	var out [][]byte
	for _, n := range []int{1, 9, 85, 255} {
		of, _ := Of(f, n)
		spread, _ := Spread(f, n, 1)
		out = append(out, of, spread)
	}
	for _, x := range [][2]int{{2, 1}, {2, 85}, {4, 3}, {254, 1}} {
		points, _ := Cosets(f, x[0], x[1])
		out = append(out, points)
	}
	return out
}

// wantLists is what lists returns, by the definitions, in memory that no call has met.
func wantLists() [][]byte {
	var out [][]byte
	for _, n := range []int{1, 9, 85, 255} {
		out = append(out, first(n), first(n))
	}
	return append(out, cosets(2, 1), cosets(2, 85), cosets(4, 3), cosets(254, 1))
}

// P6.5: what is written into a result, or after it, changes neither another one, nor a later one, nor the field.
func TestPointsAreNewMemory(t *testing.T) {
	for name, f := range kinds() {
		expected, got, others := wantLists(), lists(f), lists(f)
		for i := range got {
			right(t, got[i], api.OK, expected[i], "a list", name, i)
			all := got[i][:cap(got[i])]
			for j := range all {
				all[j] = 211
			}
			for j := i + 1; j < len(got); j++ {
				right(t, got[j], api.OK, expected[j], "another list", name, i, j)
			}
		}
		for i, want := range expected {
			right(t, others[i], api.OK, want, "the same list made before", name, i)
			right(t, lists(f)[i], api.OK, want, "the same list made after", name, i)
		}
		if x := f.Exp(1); x != 2 {
			t.Errorf("%s: the field changed: g is %d", name, x)
		}
	}
}

// P6.5: so it is with the indices of groups.
func TestGroupIsNewMemory(t *testing.T) {
	got, other := Group(14, 20), Group(14, 20)
	for i := range got[:cap(got)] {
		got[:cap(got)][i] = 211
	}
	want := []int{15, 16, 17, 18, 19, 21, 22, 23, 24, 25, 26, 27, 28, 29}
	if later := Group(14, 20); !slices.Equal(other, want) || !slices.Equal(later, want) {
		t.Errorf("Group(14, 20): %v, later %v, want %v", other, later, want)
	}
}

// P6.6: all points are different, and not 0.
func TestPointsAreDifferent(t *testing.T) {
	f := field.New()
	check := func(xs []byte, call string, about ...int) {
		if repeated(xs) > 1 || slices.Contains(xs, 0) {
			t.Errorf("%s of %v: a point is there twice, or is 0: %v", call, about, xs)
		}
	}
	for n := 1; n <= 255; n++ {
		of, _ := Of(f, n)
		check(of, "Of", n)
		spread, _ := Spread(f, 255/greatest(n, 255), n)
		check(spread, "Spread", n)
	}
	for _, r := range divisors {
		for groups := range 255/(r+1) + 1 {
			points, _ := Cosets(f, r, groups)
			check(points, "Cosets", r, groups)
		}
	}
}

// P6.2, P6.6: no two points of Spread have the same power alpha; one more than it permits would have that of another.
func TestSpreadPowersAreDifferent(t *testing.T) {
	f := field.New()
	for alpha := 1; alpha <= 255; alpha++ {
		limit := 255
		for n := range 256 {
			if _, e := Spread(f, n, alpha); e != api.OK {
				limit = n - 1
				break
			}
		}
		points, _ := Spread(f, limit, alpha)
		powers := make([]byte, len(points))
		for i, x := range points {
			powers[i] = power(x, alpha)
		}
		if len(points) != limit || repeated(powers) > 1 {
			t.Errorf("Spread(%d, %d): two points have the same power", limit, alpha)
		}
		if more := power(powerOf2(limit), alpha); limit < 255 && !slices.Contains(powers, more) {
			t.Errorf("Spread(%d, %d): there is room for one more", limit, alpha)
		}
	}
}

// P6.6: a shorter list is a prefix of a longer one.
func TestShorterListsArePrefixes(t *testing.T) {
	f := field.New()
	check := func(shorter, longer []byte, call string, about ...int) {
		if !bytes.HasPrefix(longer, shorter) || len(longer) <= len(shorter) {
			t.Errorf("%s of %v: %v, then %v", call, about, shorter, longer)
		}
	}
	for n := range 255 {
		shorter, _ := Of(f, n)
		longer, _ := Of(f, n+1)
		check(shorter, longer, "Of", n)
	}
	for _, alpha := range []int{1, 2, 3, 5, 7, 15, 17, 51, 85} {
		for n := range 255 / greatest(alpha, 255) {
			shorter, _ := Spread(f, n, alpha)
			longer, _ := Spread(f, n+1, alpha)
			check(shorter, longer, "Spread", n, alpha)
		}
	}
	for _, r := range divisors {
		for groups := range 255 / (r + 1) {
			shorter, _ := Cosets(f, r, groups)
			longer, _ := Cosets(f, r, groups+1)
			check(shorter, longer, "Cosets", r, groups)
		}
	}
}

// P6.4, P6.6: two points of Cosets have the same power r + 1 if one is in the group of the other, and only then.
func TestPowersOfGroups(t *testing.T) {
	f := field.New()
	for _, r := range divisors {
		points, _ := Cosets(f, r, 255/(r+1))
		powers := make([]byte, len(points))
		for i, x := range points {
			powers[i] = power(x, r+1)
		}
		if len(points) != 255 {
			t.Fatalf("Cosets of %d: %d points", r, len(points))
		}
		for i := range points {
			var same []int
			for j := range points {
				if j != i && powers[j] == powers[i] {
					same = append(same, j)
				}
			}
			if got := Group(r, i); !slices.Equal(got, same) {
				t.Errorf("Group(%d, %d): %v, but the points %v have the same power", r, i, got, same)
			}
		}
	}
}

// Results depend on the arguments alone, not on earlier calls, nor on other goroutines.
func TestCallsAtOnce(t *testing.T) {
	f, expected := field.New(), wantLists()
	results := make([][][]byte, 8)
	done := make(chan bool)
	for i := range results {
		go func() {
			results[i] = lists(f)
			done <- true
		}()
	}
	for range results {
		<-done
	}
	for i := range results {
		for j, want := range expected {
			right(t, results[i][j], api.OK, want, "a list", i, j)
		}
	}
}
