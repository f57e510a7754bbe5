package tests

import (
	"reflect"
	"slices"
	"strconv"
	"strings"
	"testing"

	"loop.example/g01132/impl"
)

// cubeOf makes a cube of the numbers that a function tells.
func cubeOf(n int, at func(i, j, k int) int64) impl.Ring {
	r := impl.Ring{}
	for i := range n {
		rows := tableOf(n, n, 0)
		for j := range n {
			for k := range n {
				rows[j][k] = at(i, j, k)
			}
		}
		r.Table = append(r.Table, rows)
	}
	return r
}

func copyRing(r impl.Ring) impl.Ring {
	return cubeOf(len(r.Table), func(i, j, k int) int64 { return r.Table[i][j][k] })
}

// takeLabels makes the ring with the label labels[i] of r as its label i.
func takeLabels(r impl.Ring, labels []int) impl.Ring {
	return cubeOf(len(labels), func(i, j, k int) int64 { return r.Table[labels[i]][labels[j]][labels[k]] })
}

// truth is 1 for true.
func truth(is bool) int64 {
	if is {
		return 1
	}
	return 0
}

// groupCube makes the ring of a group of n elements.
func groupCube(n int, times func(a, b int) int) impl.Ring {
	return cubeOf(n, func(i, j, k int) int64 { return truth(times(i, j) == k) })
}

// sums is the addition of the group of orders, by numbers of elements.
func sums(orders ...int) func(a, b int) int {
	return func(a, b int) int {
		sum, place := 0, 1
		for _, order := range slices.Backward(orders) {
			sum += (a + b) % order * place
			a, b, place = a/order, b/order, place*order
		}
		return sum
	}
}

// twisted is the product of the group with the elements (x, y), of the numbers x m + y, where y
// multiplies by the power of k on its way to the left of x.
func twisted(n int, m int, k int) func(a, b int) int {
	return func(a, b int) int {
		x := b / m
		for range a % m {
			x = x * k % n
		}
		return (a/m+x)%n*m + (a+b)%m
	}
}

// quaternions is the product of the group of quaternions 1, i, j, k (0 to 3) and their negatives
// (4 to 7).
func quaternions(a, b int) int {
	table := [4][4]int{{0, 1, 2, 3}, {1, 4, 3, 6}, {2, 7, 4, 1}, {3, 2, 5, 4}}
	return (table[a%4][b%4] + a/4*4 + b/4*4) % 8
}

// nearCube makes the near-group ring of a group of n elements and k.
func nearCube(n int, times func(a, b int) int, k int64) impl.Ring {
	return cubeOf(n+1, func(a, b, c int) int64 {
		switch {
		case a < n && b < n:
			return truth(c < n && times(a, b) == c)
		case a < n || b < n:
			return truth(c == n)
		case c < n:
			return 1
		}
		return k
	})
}

// inverseIn is the inverse of an element of a group of n elements.
func inverseIn(n int, times func(a, b int) int, a int) int {
	for b := range n {
		if times(a, b) == 0 {
			return b
		}
	}
	return -1
}

// turningCube makes the ring with the labels g of a group of n elements, and g x, with the product x
// g being g^-1 x, and the product of x and x being 1 and k times all g x.
func turningCube(n int, times func(a, b int) int, k int64) impl.Ring {
	return cubeOf(2*n, func(a, b, c int) int64 {
		if a >= n && b >= n && c >= n {
			return k
		}
		factor := b % n
		if a >= n {
			factor = inverseIn(n, times, factor)
		}
		return truth(times(a%n, factor) == c%n && (a/n+b/n+c/n)%2 == 0)
	})
}

// spinCube makes the ring of spins of a level.
func spinCube(level int) impl.Ring {
	return cubeOf(level+1, func(i, j, k int) int64 {
		least, greatest := max(i-j, j-i), min(i+j, 2*level-i-j)
		return truth(least <= k && k <= greatest && (k-least)%2 == 0)
	})
}

// productCube makes the product of two rings.
func productCube(r impl.Ring, s impl.Ring) impl.Ring {
	m := len(s.Table)
	return cubeOf(len(r.Table)*m, func(i, j, k int) int64 {
		return r.Table[i/m][j/m][k/m] * s.Table[i%m][j%m][k%m]
	})
}

// shuffled gives the labels of a ring other than 0 other numbers, and returns those that they had.
func (s *sequence) shuffled(r impl.Ring) (impl.Ring, []int) {
	labels := []int{}
	for i := range r.Table {
		labels = append(labels, i)
	}
	for i := len(labels) - 1; i > 1; i-- {
		j := 1 + s.next(int64(i))
		labels[i], labels[j] = labels[j], labels[i]
	}
	return takeLabels(r, labels), labels
}

var fibonacci = impl.Ring{Table: [][][]int64{{{1, 0}, {0, 1}}, {{0, 1}, {1, 1}}}}

// smallRings has rings with at most 7 labels, no two of them isomorphic.
func smallRings() map[string]impl.Ring {
	return map[string]impl.Ring{
		"of one label":            groupCube(1, sums(1)),
		"of the group 2":          groupCube(2, sums(2)),
		"of Fibonacci":            fibonacci,
		"near 1 with 2":           nearCube(1, sums(1), 2),
		"near 1 with 1000":        nearCube(1, sums(1), 1000),
		"of the group 3":          groupCube(3, sums(3)),
		"of Ising":                nearCube(2, sums(2), 0),
		"near 2 with 1":           nearCube(2, sums(2), 1),
		"near 2 with 1000":        nearCube(2, sums(2), 1000),
		"of even spins":           takeLabels(spinCube(5), []int{0, 2, 4}),
		"of the group 4":          groupCube(4, sums(4)),
		"of the group 2 2":        groupCube(4, sums(2, 2)),
		"of spins 3":              spinCube(3),
		"near 3 with 2":           nearCube(3, sums(3), 2),
		"of Fibonacci twice":      productCube(fibonacci, fibonacci),
		"of spins 4":              spinCube(4),
		"of the group 5":          groupCube(5, sums(5)),
		"near 4 with 0":           nearCube(4, sums(4), 0),
		"near 2 2 with 0":         nearCube(4, sums(2, 2), 0),
		"of the group 6":          groupCube(6, sums(6)),
		"of the group of S3":      groupCube(6, twisted(3, 2, 2)),
		"of Haagerup":             turningCube(3, sums(3), 1),
		"of the group 3 and x":    turningCube(3, sums(3), 2),
		"of Ising and Fibonacci":  productCube(nearCube(2, sums(2), 0), fibonacci),
		"of the group 7":          groupCube(7, sums(7)),
		"near the group of S3":    nearCube(6, twisted(3, 2, 2), 0),
		"near 6 with 0":           nearCube(6, sums(6), 0),
		"near 6 with 6":           nearCube(6, sums(6), 6),
		"of spins 6":              spinCube(6),
		"of even spins of 12":     takeLabels(spinCube(12), []int{0, 2, 4, 6, 8, 10, 12}),
		"near the group 6 with 3": nearCube(6, sums(2, 3), 3),
	}
}

// greatRings has rings with 8 to 16 labels, no two of them isomorphic.
func greatRings() map[string]impl.Ring {
	twice := productCube(fibonacci, fibonacci)
	return map[string]impl.Ring{
		"of the group 8":           groupCube(8, sums(8)),
		"of the group 2 2 2":       groupCube(8, sums(2, 2, 2)),
		"of the dihedral group 4":  groupCube(8, twisted(4, 2, 3)),
		"of the quaternions":       groupCube(8, quaternions),
		"near 10 with 0":           nearCube(10, sums(10), 0),
		"near 15 with 0":           nearCube(15, sums(15), 0),
		"near 15 with 1000":        nearCube(15, sums(15), 1000),
		"of spins 15":              spinCube(15),
		"of Fibonacci four times":  productCube(twice, twice),
		"of the group 16":          groupCube(16, sums(16)),
		"of the group 2 2 2 2":     groupCube(16, sums(2, 2, 2, 2)),
		"of the group 4 4":         groupCube(16, sums(4, 4)),
		"of the group 4 2 2":       groupCube(16, sums(4, 2, 2)),
		"of the dihedral group 8":  groupCube(16, twisted(8, 2, 7)),
		"of the group 8 2 by 3":    groupCube(16, twisted(8, 2, 3)),
		"of the group 8 2 by 5":    groupCube(16, twisted(8, 2, 5)),
		"of the group 4 4 by 3":    groupCube(16, twisted(4, 4, 3)),
		"of the group 8 and x":     turningCube(8, sums(8), 1),
		"of the group 2 2 2 and x": turningCube(8, sums(2, 2, 2), 1),
		"of the group 4 2 and x":   turningCube(8, sums(4, 2), 1),
		"of quaternions and 2":     productCube(groupCube(8, quaternions), groupCube(2, sums(2))),
		"of dihedral 4 and 2":      productCube(groupCube(8, twisted(4, 2, 3)), groupCube(2, sums(2))),
	}
}

// allRings has the small and the great rings, and each of them with other numbers of its labels.
func allRings() map[string]impl.Ring {
	s, all := &sequence{state: 3}, map[string]impl.Ring{}
	for _, rings := range []map[string]impl.Ring{smallRings(), greatRings()} {
		for _, name := range slices.Sorted(keysOf(rings)) {
			all[name] = rings[name]
			all[name+", shuffled"], _ = s.shuffled(rings[name])
		}
	}
	return all
}

func keysOf(rings map[string]impl.Ring) func(yield func(string) bool) {
	return func(yield func(string) bool) {
		for name := range rings {
			if !yield(name) {
				return
			}
		}
	}
}

// partnersOf has the labels j with N(i, j, 0) other than 0.
func partnersOf(r impl.Ring, i int) []int {
	partners := []int{}
	for j := range r.Table {
		if r.Table[i][j][0] != 0 {
			partners = append(partners, j)
		}
	}
	return partners
}

// isPaired tells whether the label i has no fault {1, i}.
func isPaired(r impl.Ring, i int) bool {
	there := partnersOf(r, i)
	if len(there) != 1 || r.Table[i][there[0]][0] != 1 {
		return false
	}
	j := there[0]
	back := partnersOf(r, j)
	return len(back) == 1 && r.Table[j][back[0]][0] == 1 && back[0] == i
}

// wantedFault has the first fault of a cube, as the document tells it, or nil.
func wantedFault(r impl.Ring) []int64 {
	n := len(r.Table)
	at := func(i, j, k int) int64 { return r.Table[i][j][k] }
	places := func(length int, isWrong func(p []int) bool) []int64 {
		total := 1
		for range length {
			total *= n
		}
		for number := range total {
			p, rest := make([]int, length), number
			for x := length - 1; x >= 0; x-- {
				p[x], rest = rest%n, rest/n
			}
			if isWrong(p) {
				list := []int64{}
				for _, label := range p {
					list = append(list, int64(label))
				}
				return list
			}
		}
		return nil
	}
	faults := []struct {
		length  int
		isWrong func(p []int) bool
	}{
		{2, func(p []int) bool {
			return at(0, p[0], p[1]) != truth(p[0] == p[1]) || at(p[0], 0, p[1]) != truth(p[0] == p[1])
		}},
		{1, func(p []int) bool { return !isPaired(r, p[0]) }},
		{3, func(p []int) bool {
			i, j, k := p[0], p[1], p[2]
			a, b, c := at(i, j, k), at(partnersOf(r, i)[0], k, j), at(k, partnersOf(r, j)[0], i)
			return a != b || b != c
		}},
		{4, func(p []int) bool {
			left, right := int64(0), int64(0)
			for m := range n {
				left += at(p[0], p[1], m) * at(m, p[2], p[3])
				right += at(p[1], p[2], m) * at(p[0], m, p[3])
			}
			return left != right
		}},
	}
	for kind, fault := range faults {
		if list := places(fault.length, fault.isWrong); list != nil {
			return append([]int64{int64(kind)}, list...)
		}
	}
	return nil
}

// checkFault compares RingFault and IsRing of a cube with what the document tells, and returns the
// fault.
func checkFault(t *testing.T, what string, r impl.Ring) []int64 {
	t.Helper()
	want, wantCode := wantedFault(r), int64(impl.ErrNone)
	if want == nil {
		wantCode = impl.ErrNotFound
	}
	got, code := impl.RingFault(r)
	checkList(t, "RingFault "+what, got, code, want, wantCode)
	if impl.IsRing(r) != (want == nil) {
		t.Errorf("IsRing %s = %v, with the fault %v", what, want != nil, want)
	}
	return want
}

func checkRing(t *testing.T, what string, got impl.Ring, code int64, want impl.Ring, wantCode int64) {
	t.Helper()
	if code != wantCode || !slices.EqualFunc(got.Table, want.Table, sameTable) {
		t.Errorf("%s = %v, %d, want %v, %d", what, got.Table, code, want.Table, wantCode)
	}
}

func TestConstantsOfChapter3(t *testing.T) {
	if impl.MaxRank != 16 || impl.MaxForm != 7 || impl.MaxMultiplicity != 1000 {
		t.Errorf("the constants are %d, %d, %d", impl.MaxRank, impl.MaxForm, impl.MaxMultiplicity)
	}
}

func TestRingsHaveNoFaults(t *testing.T) {
	for name, r := range allRings() {
		if checkFault(t, name, r) != nil {
			t.Errorf("the ring %s is none", name)
		}
	}
}

func TestFaultsOfAllCubesOfTwoLabels(t *testing.T) {
	// All cubes with the numbers 0 to 2.
	kinds := [5]int{}
	for number := range 6561 {
		rest := int64(number)
		r := cubeOf(2, func(i, j, k int) int64 {
			digit := rest % 3
			rest /= 3
			return digit
		})
		fault := checkFault(t, strconv.Itoa(number), r)
		if fault == nil {
			kinds[4]++
		} else {
			kinds[fault[0]]++
		}
	}
	// With two labels all rings are those with 1 1 k, and the turns are always equal.
	if kinds[4] != 3 || kinds[0] == 0 || kinds[1] == 0 {
		t.Errorf("the faults are of the kinds %v", kinds)
	}
}

func TestFaultsOfCubesOfThreeLabels(t *testing.T) {
	// All cubes with a label 0 as it must be and other numbers 0 and 1.
	kinds := [5]int{}
	for number := range 4096 {
		rest := number
		r := cubeOf(3, func(i, j, k int) int64 {
			if i == 0 || j == 0 {
				return truth(i+j == k)
			}
			digit := rest % 2
			rest /= 2
			return int64(digit)
		})
		fault := checkFault(t, strconv.Itoa(number), r)
		if fault == nil {
			kinds[4]++
		} else {
			kinds[fault[0]]++
		}
	}
	if kinds[1] == 0 || kinds[2] == 0 || kinds[3] == 0 || kinds[4] == 0 {
		t.Errorf("the faults are of the kinds %v", kinds)
	}
}

func TestFaultsOfRingsWithOneOtherNumber(t *testing.T) {
	for name, ring := range smallRings() {
		r := copyRing(ring)
		if len(r.Table) > 4 {
			continue
		}
		for _, rows := range r.Table {
			for _, row := range rows {
				for k, old := range row {
					for _, a := range []int64{0, 1, 2, 1000} {
						row[k] = a
						checkFault(t, name, r)
					}
					row[k] = old
				}
			}
		}
	}
}

func TestFaultsOfGreatCubes(t *testing.T) {
	s := &sequence{state: 11}
	for name, ring := range greatRings() {
		r := copyRing(ring)
		n := int64(len(r.Table))
		// Several numbers are changed one after the other, so that there are several faults.
		for range 4 {
			i, j, k := 1+s.next(n-1), 1+s.next(n-1), s.next(n)
			r.Table[i][j][k] = (r.Table[i][j][k] + 1) % 1001
			checkFault(t, call(name, i, j, k), r)
		}
	}
	// Each number is 0, or each one is the greatest.
	for _, n := range []int{1, 2, 16} {
		for _, a := range []int64{0, 1, 1000} {
			checkFault(t, call("all numbers", int64(n), a), cubeOf(n, func(i, j, k int) int64 { return a }))
		}
	}
}

func TestRingFault(t *testing.T) {
	for _, test := range []struct {
		what string
		rows [][][]int64
		want []int64
	}{
		{"no unit", [][][]int64{{{0}}}, []int64{0, 0, 0}},
		{"twice the unit", [][][]int64{{{2}}}, []int64{0, 0, 0}},
		{"units from one side", [][][]int64{{{1, 0}, {0, 1}}, {{0, 0}, {1, 0}}}, []int64{0, 1, 1}},
		{"two faults of units", [][][]int64{{{1, 0}, {1, 1}}, {{0, 2}, {1, 0}}}, []int64{0, 1, 0}},
		{"no dual", [][][]int64{{{1, 0}, {0, 1}}, {{0, 1}, {0, 1}}}, []int64{1, 1}},
		{"a dual that is 2", [][][]int64{{{1, 0}, {0, 1}}, {{0, 1}, {2, 1}}}, []int64{1, 1}},
		{"two duals", [][][]int64{
			{{1, 0, 0}, {0, 1, 0}, {0, 0, 1}},
			{{0, 1, 0}, {1, 0, 0}, {1, 0, 0}},
			{{0, 0, 1}, {1, 0, 0}, {0, 1, 0}},
		}, []int64{1, 1}},
		{"the dual has another one", [][][]int64{
			{{1, 0, 0}, {0, 1, 0}, {0, 0, 1}},
			{{0, 1, 0}, {0, 0, 1}, {1, 0, 0}},
			{{0, 0, 1}, {0, 1, 0}, {1, 0, 0}},
		}, []int64{1, 1}},
		{"the dual has none, and no unit", [][][]int64{
			{{1, 0, 0}, {0, 1, 0}, {0, 0, 1}},
			{{0, 1, 0}, {0, 0, 1}, {1, 0, 0}},
			{{0, 0, 1}, {0, 1, 0}, {0, 1, 1}},
		}, []int64{1, 1}},
		{"the dual has one that is 2", [][][]int64{
			{{1, 0, 0}, {0, 1, 0}, {0, 0, 1}},
			{{0, 1, 0}, {0, 0, 1}, {1, 0, 0}},
			{{0, 0, 1}, {2, 0, 0}, {0, 1, 0}},
		}, []int64{1, 1}},
		{"turns that differ", [][][]int64{
			{{1, 0, 0}, {0, 1, 0}, {0, 0, 1}},
			{{0, 1, 0}, {1, 0, 1}, {0, 0, 0}},
			{{0, 0, 1}, {0, 0, 0}, {1, 0, 0}},
		}, []int64{2, 1, 1, 2}},
		{"sums that differ", [][][]int64{
			{{1, 0, 0}, {0, 1, 0}, {0, 0, 1}},
			{{0, 1, 0}, {1, 0, 0}, {0, 0, 0}},
			{{0, 0, 1}, {0, 0, 0}, {1, 0, 0}},
		}, []int64{3, 1, 1, 2, 2}},
	} {
		r := impl.Ring{Table: test.rows}
		got, code := impl.RingFault(r)
		checkList(t, "RingFault with "+test.what, got, code, test.want, impl.ErrNone)
		checkFault(t, "with "+test.what, r)
	}
}

// noCubes has tables that are no cubes.
func noCubes() map[string]impl.Ring {
	change := func(r impl.Ring, apply func([][][]int64)) impl.Ring {
		other := copyRing(r)
		apply(other.Table)
		return other
	}
	great := groupCube(16, sums(16))
	return map[string]impl.Ring{
		"nothing":                {},
		"no tables":              {Table: [][][]int64{}},
		"no rows":                {Table: [][][]int64{{}}},
		"no columns":             {Table: [][][]int64{{{}}}},
		"rank 17":                groupCube(17, sums(17)),
		"two rows in one table":  {Table: [][][]int64{{{1}, {1}}}},
		"two columns":            {Table: [][][]int64{{{1, 0}}}},
		"one table of two":       {Table: fibonacci.Table[:1]},
		"three tables of two":    {Table: append(copyRing(fibonacci).Table, unitTable(2))},
		"a row too few":          change(fibonacci, func(a [][][]int64) { a[1] = a[1][:1] }),
		"a row too many":         change(fibonacci, func(a [][][]int64) { a[0] = append(a[0], []int64{0, 0}) }),
		"a table that is nil":    change(fibonacci, func(a [][][]int64) { a[1] = nil }),
		"a number too few":       change(fibonacci, func(a [][][]int64) { a[1][1] = a[1][1][:1] }),
		"a number too many":      change(fibonacci, func(a [][][]int64) { a[0][1] = append(a[0][1], 0) }),
		"a row that is nil":      change(fibonacci, func(a [][][]int64) { a[0][0] = nil }),
		"the number -1":          change(fibonacci, func(a [][][]int64) { a[1][1][1] = -1 }),
		"the number 1001":        change(fibonacci, func(a [][][]int64) { a[1][1][1] = 1001 }),
		"the least number":       change(fibonacci, func(a [][][]int64) { a[0][1][0] = -1 << 63 }),
		"the greatest number":    change(fibonacci, func(a [][][]int64) { a[1][0][1] = 1<<63 - 1 }),
		"the last of 4096 is -1": change(great, func(a [][][]int64) { a[15][15][15] = -1 }),
		"a short last row":       change(great, func(a [][][]int64) { a[15][15] = a[15][15][:15] }),
	}
}

// noRings has cubes that are no rings, with each kind of fault and with one more label than least
// forms and automorphisms have at most.
func noRings() map[string]impl.Ring {
	change := func(r impl.Ring, i, j, k int, a int64) impl.Ring {
		other := copyRing(r)
		other.Table[i][j][k] = a
		return other
	}
	return map[string]impl.Ring{
		"no unit":             {Table: [][][]int64{{{0}}}},
		"a wrong unit":        change(fibonacci, 0, 1, 0, 1),
		"no dual":             change(fibonacci, 1, 1, 0, 0),
		"a dual with 2":       change(fibonacci, 1, 1, 0, 2),
		"a turn that differs": change(nearCube(2, sums(2), 1), 1, 2, 1, 1),
		"sums that differ": {Table: [][][]int64{
			{{1, 0, 0}, {0, 1, 0}, {0, 0, 1}},
			{{0, 1, 0}, {1, 0, 0}, {0, 0, 0}},
			{{0, 0, 1}, {0, 0, 0}, {1, 0, 0}},
		}},
		"eight labels":   change(groupCube(8, sums(8)), 7, 7, 7, 1000),
		"sixteen labels": change(groupCube(16, sums(16)), 15, 15, 15, 1),
		"zeros":          cubeOf(16, func(i, j, k int) int64 { return 0 }),
	}
}

// ringFunctions has the functions of one ring other than IsRing and RingFault, and of those of more
// arguments what they return for one ring and other arguments that fit, or do not fit. Each one
// also tells whether the result beside the code is the zero value.
func ringFunctions() map[string]func(impl.Ring) (bool, int64) {
	bools := func(f func(impl.Ring) (bool, int64)) func(impl.Ring) (bool, int64) {
		return func(r impl.Ring) (bool, int64) {
			result, code := f(r)
			return !result, code
		}
	}
	rings := func(f func(impl.Ring) (impl.Ring, int64)) func(impl.Ring) (bool, int64) {
		return func(r impl.Ring) (bool, int64) {
			result, code := f(r)
			return len(result.Table) == 0, code
		}
	}
	lists := func(f func(impl.Ring) ([]int64, int64)) func(impl.Ring) (bool, int64) {
		return func(r impl.Ring) (bool, int64) {
			result, code := f(r)
			return len(result) == 0, code
		}
	}
	return map[string]func(impl.Ring) (bool, int64){
		"DualsOf":           lists(impl.DualsOf),
		"IsCommutativeRing": bools(impl.IsCommutativeRing),
		"IsSelfDual":        bools(impl.IsSelfDual),
		"MultiplyVectors": lists(func(r impl.Ring) ([]int64, int64) {
			x := repeated(1, len(r.Table))
			return impl.MultiplyVectors(r, x, x)
		}),
		"MultiplyVectors, no vectors": lists(func(r impl.Ring) ([]int64, int64) { return impl.MultiplyVectors(r, nil, []int64{-1}) }),
		"PowerOfLabel":                lists(func(r impl.Ring) ([]int64, int64) { return impl.PowerOfLabel(r, 0, 1) }),
		"PowerOfLabel, no label":      lists(func(r impl.Ring) ([]int64, int64) { return impl.PowerOfLabel(r, -1, 41) }),
		"OppositeRing":                rings(impl.OppositeRing),
		"RingIsomorphism, first":      lists(func(r impl.Ring) ([]int64, int64) { return impl.RingIsomorphism(r, fibonacci) }),
		"RingIsomorphism, second":     lists(func(r impl.Ring) ([]int64, int64) { return impl.RingIsomorphism(fibonacci, r) }),
		"RingIsomorphism, both":       lists(func(r impl.Ring) ([]int64, int64) { return impl.RingIsomorphism(r, r) }),
		"CountRingAutomorphisms": func(r impl.Ring) (bool, int64) {
			result, code := impl.CountRingAutomorphisms(r)
			return result == 0, code
		},
		"LeastRing": rings(impl.LeastRing),
		"RingText": func(r impl.Ring) (bool, int64) {
			result, code := impl.RingText(r)
			return result == "", code
		},
	}
}

func TestWhatIsNoRing(t *testing.T) {
	for what, r := range noCubes() {
		got, code := impl.RingFault(r)
		checkList(t, "RingFault with "+what, got, code, nil, impl.ErrInvalid)
		if impl.IsRing(r) {
			t.Errorf("IsRing with %s is true", what)
		}
	}
	for what, r := range noRings() {
		if checkFault(t, "with "+what, r) == nil {
			t.Errorf("there is no fault with %s", what)
		}
	}
	for _, rings := range []map[string]impl.Ring{noCubes(), noRings()} {
		for what, r := range rings {
			for name, function := range ringFunctions() {
				if zero, code := function(r); !zero || code != impl.ErrInvalid {
					t.Errorf("%s with %s returns %d, zero %v", name, what, code, zero)
				}
			}
		}
	}
}

func TestDualsOf(t *testing.T) {
	for name, r := range allRings() {
		want, isSelfDual, isCommutative := []int64{}, true, true
		for i := range r.Table {
			partner := partnersOf(r, i)[0]
			want = append(want, int64(partner))
			isSelfDual = isSelfDual && partner == i
			for j := range r.Table {
				isCommutative = isCommutative && slices.Equal(r.Table[i][j], r.Table[j][i])
			}
		}
		got, code := impl.DualsOf(r)
		checkList(t, "DualsOf "+name, got, code, want, impl.ErrNone)
		if is, code := impl.IsSelfDual(r); is != isSelfDual || code != impl.ErrNone {
			t.Errorf("IsSelfDual %s = %v, %d", name, is, code)
		}
		if is, code := impl.IsCommutativeRing(r); is != isCommutative || code != impl.ErrNone {
			t.Errorf("IsCommutativeRing %s = %v, %d", name, is, code)
		}
	}
}

func TestKindsOfRings(t *testing.T) {
	all := allRings()
	for _, test := range []struct {
		name                  string
		commutative, selfDual bool
		duals                 []int64
	}{
		{"of one label", true, true, []int64{0}},
		{"of Fibonacci", true, true, []int64{0, 1}},
		{"of the group 3", true, false, []int64{0, 2, 1}},
		{"of the group 2 2", true, true, []int64{0, 1, 2, 3}},
		{"of the group of S3", false, false, []int64{0, 1, 4, 3, 2, 5}},
		{"of Haagerup", false, false, []int64{0, 2, 1, 3, 4, 5}},
		{"of the quaternions", false, false, []int64{0, 5, 6, 7, 4, 1, 2, 3}},
		{"of spins 6", true, true, []int64{0, 1, 2, 3, 4, 5, 6}},
	} {
		duals, a := impl.DualsOf(all[test.name])
		checkList(t, "DualsOf "+test.name, duals, a, test.duals, impl.ErrNone)
		commutative, b := impl.IsCommutativeRing(all[test.name])
		selfDual, c := impl.IsSelfDual(all[test.name])
		if commutative != test.commutative || selfDual != test.selfDual || b != impl.ErrNone || c != impl.ErrNone {
			t.Errorf("the ring %s is commutative: %v, self-dual: %v", test.name, commutative, selfDual)
		}
	}
}

// productByRing is the product of two vectors, number by number.
func productByRing(r impl.Ring, x []int64, y []int64) []int64 {
	product := make([]int64, len(r.Table))
	for k := range product {
		for i := range x {
			for j := range y {
				product[k] += x[i] * y[j] * r.Table[i][j][k]
			}
		}
	}
	return product
}

// standsFor is the vector of a label.
func standsFor(r impl.Ring, i int) []int64 {
	x := make([]int64, len(r.Table))
	x[i] = 1
	return x
}

// vector makes a vector of a ring with numbers less than limit.
func (s *sequence) vector(r impl.Ring, limit int64) []int64 {
	x := make([]int64, len(r.Table))
	for i := range x {
		x[i] = s.next(limit)
	}
	return x
}

func TestMultiplyVectors(t *testing.T) {
	s := &sequence{state: 31}
	for name, r := range allRings() {
		zero := make([]int64, len(r.Table))
		greatest := repeated(1000000, len(r.Table))
		for _, test := range [][2][]int64{
			{zero, zero}, {zero, greatest}, {greatest, zero}, {greatest, greatest},
			{s.vector(r, 1000001), s.vector(r, 1000001)}, {s.vector(r, 3), s.vector(r, 3)}, {s.vector(r, 2), greatest},
		} {
			got, code := impl.MultiplyVectors(r, test[0], test[1])
			checkList(t, "MultiplyVectors "+name, got, code, productByRing(r, test[0], test[1]), impl.ErrNone)
		}
	}
	got, code := impl.MultiplyVectors(fibonacci, []int64{0, 1}, []int64{0, 1})
	checkList(t, "MultiplyVectors of the document", got, code, []int64{1, 1}, impl.ErrNone)
	got, code = impl.MultiplyVectors(nearCube(1, sums(1), 1000), []int64{0, 1000000}, []int64{0, 1000000})
	checkList(t, "MultiplyVectors of great numbers", got, code, []int64{1000000000000, 1000000000000000}, impl.ErrNone)
}

func TestProductsAreAssociative(t *testing.T) {
	s := &sequence{state: 37}
	for name, r := range allRings() {
		x, y, z := s.vector(r, 2), s.vector(r, 2), s.vector(r, 2)
		if name == "of the group of S3" {
			x, y, z = s.vector(r, 100), s.vector(r, 100), s.vector(r, 100)
		}
		left, a := impl.MultiplyVectors(r, x, y)
		left, b := impl.MultiplyVectors(r, left, z)
		right, c := impl.MultiplyVectors(r, y, z)
		right, d := impl.MultiplyVectors(r, x, right)
		if a+b+c+d != 0 || !slices.Equal(left, right) {
			t.Errorf("products of %s: %v and %v", name, left, right)
		}
	}
}

func TestProductsOfLabelsAndDuals(t *testing.T) {
	for name, r := range allRings() {
		duals, _ := impl.DualsOf(r)
		last := len(r.Table) - 1
		for i := range r.Table {
			for _, j := range []int{i, last / 2, int(duals[i])} {
				product, a := impl.MultiplyVectors(r, standsFor(r, i), standsFor(r, j))
				other, b := impl.MultiplyVectors(r, standsFor(r, int(duals[j])), standsFor(r, int(duals[i])))
				if a+b != 0 || product[0] != truth(j == int(duals[i])) {
					t.Errorf("the product of %d and %d of %s is %v", i, j, name, product)
				}
				for k := range product {
					if product[k] != other[duals[k]] {
						t.Errorf("the dual of the product of %d and %d of %s is %v", i, j, name, other)
					}
				}
			}
		}
	}
}

func TestMultiplyVectorsErrors(t *testing.T) {
	fits := []int64{1000000, 0}
	for _, x := range [][]int64{
		nil, {}, {1}, {1, 1, 1}, {-1, 0}, {0, -1}, {1000001, 0}, {0, 1000001}, {-1 << 63, 0}, {0, 1<<63 - 1},
	} {
		got, code := impl.MultiplyVectors(fibonacci, x, fits)
		checkList(t, call("MultiplyVectors, first", x...), got, code, nil, impl.ErrRange)
		got, code = impl.MultiplyVectors(fibonacci, fits, x)
		checkList(t, call("MultiplyVectors, second", x...), got, code, nil, impl.ErrRange)
		got, code = impl.MultiplyVectors(fibonacci, x, x)
		checkList(t, call("MultiplyVectors, both", x...), got, code, nil, impl.ErrRange)
	}
}

func TestPowerOfLabel(t *testing.T) {
	for name, r := range allRings() {
		for _, i := range []int{len(r.Table) / 2, len(r.Table) - 1} {
			want, wantCode := standsFor(r, 0), int64(impl.ErrNone)
			for k := range int64(41) {
				got, code := impl.PowerOfLabel(r, int64(i), k)
				checkList(t, call("PowerOfLabel "+name, int64(i), k), got, code, want, wantCode)
				if wantCode == impl.ErrNone {
					want = productByRing(r, want, standsFor(r, i))
				}
				if wantCode == impl.ErrNone && slices.Max(want) > 1000000000 {
					want, wantCode = nil, impl.ErrLimit
				}
			}
		}
	}
}

func TestPowersAtTheLimit(t *testing.T) {
	// The odd powers of the last label are 10, 100, .. times it, the even ones as often all others.
	r, all := nearCube(10, sums(10), 0), repeated(1000000000, 11)
	all[10] = 0
	nearLimit := nearCube(1, sums(1), 1000)
	for _, test := range []struct {
		ring impl.Ring
		i, k int64
		want []int64
		code int64
	}{
		{r, 10, 19, multipleBy(1000000000, standsFor(r, 10)), impl.ErrNone},
		{r, 10, 20, all, impl.ErrNone},
		{r, 10, 21, nil, impl.ErrLimit},
		{r, 10, 40, nil, impl.ErrLimit},
		{r, 9, 40, standsFor(r, 0), impl.ErrNone},
		{nearLimit, 1, 3, []int64{1000, 1000001}, impl.ErrNone},
		{nearLimit, 1, 4, nil, impl.ErrLimit},
		{nearLimit, 1, 40, nil, impl.ErrLimit},
		{nearLimit, 0, 40, []int64{1, 0}, impl.ErrNone},
		{nearLimit, 1, 41, nil, impl.ErrRange},
		{nearLimit, 1, 0, []int64{1, 0}, impl.ErrNone},
		{fibonacci, 1, 4, []int64{2, 3}, impl.ErrNone},
		{fibonacci, 1, 40, []int64{63245986, 102334155}, impl.ErrNone},
	} {
		got, code := impl.PowerOfLabel(test.ring, test.i, test.k)
		checkList(t, call("PowerOfLabel", test.i, test.k), got, code, test.want, test.code)
	}
}

// multipleBy is a times a vector.
func multipleBy(a int64, x []int64) []int64 {
	product := make([]int64, len(x))
	for i := range x {
		product[i] = a * x[i]
	}
	return product
}

func TestPowerOfLabelErrors(t *testing.T) {
	for _, test := range [][2]int64{
		{-1, 0}, {2, 0}, {1, -1}, {1, 41}, {2, 41}, {-1, -1}, {-1 << 63, 1}, {1<<63 - 1, 1}, {1, -1 << 63}, {0, 1<<63 - 1},
	} {
		got, code := impl.PowerOfLabel(fibonacci, test[0], test[1])
		checkList(t, call("PowerOfLabel", test[0], test[1]), got, code, nil, impl.ErrRange)
	}
}

func TestOppositeRing(t *testing.T) {
	for name, r := range allRings() {
		got, code := impl.OppositeRing(r)
		want := cubeOf(len(r.Table), func(i, j, k int) int64 { return r.Table[j][i][k] })
		checkRing(t, "OppositeRing "+name, got, code, want, impl.ErrNone)
		if !impl.IsRing(got) {
			t.Errorf("the opposite of %s is no ring", name)
		}
	}
	got, code := impl.OppositeRing(groupCube(6, twisted(3, 2, 2)))
	if code != impl.ErrNone || got.Table[1][2][3] != 1 || got.Table[2][1][5] != 1 {
		t.Errorf("OppositeRing of the group of S3 = %v", got.Table)
	}
}

// permutationsOf has all permutations of n labels that lead 0 to 0, in lexicographic order.
func permutationsOf(n int) [][]int {
	all, labels := [][]int{}, []int{0}
	var extend func()
	extend = func() {
		if len(labels) == n {
			all = append(all, slices.Clone(labels))
		}
		for a := range n {
			if len(labels) < n && !slices.Contains(labels, a) {
				labels = append(labels, a)
				extend()
				labels = labels[:len(labels)-1]
			}
		}
	}
	extend()
	return all
}

// leadsTo tells whether p is an isomorphism from r to s.
func leadsTo(r impl.Ring, s impl.Ring, p []int) bool {
	for i := range p {
		for j := range p {
			for k := range p {
				if r.Table[i][j][k] != s.Table[p[i]][p[j]][p[k]] {
					return false
				}
			}
		}
	}
	return true
}

// isomorphismsBetween has all isomorphisms in lexicographic order, found by trying.
func isomorphismsBetween(r impl.Ring, s impl.Ring) [][]int {
	found := [][]int{}
	if len(r.Table) != len(s.Table) {
		return found
	}
	for _, p := range permutationsOf(len(r.Table)) {
		if leadsTo(r, s, p) {
			found = append(found, p)
		}
	}
	return found
}

// wideList has the elements of a list as int64.
func wideList(list []int) []int64 {
	wide := []int64{}
	for _, a := range list {
		wide = append(wide, int64(a))
	}
	return wide
}

func TestIsomorphismsOfSmallRings(t *testing.T) {
	rings := map[string]impl.Ring{}
	for name, r := range allRings() {
		if len(r.Table) <= impl.MaxForm {
			rings[name] = r
		}
	}
	least := map[string]impl.Ring{}
	for name, r := range rings {
		least[name], _ = impl.LeastRing(r)
	}
	for first, r := range rings {
		for second, s := range rings {
			found := isomorphismsBetween(r, s)
			p, code := impl.RingIsomorphism(r, s)
			what := "RingIsomorphism from " + first + " to " + second
			if len(found) == 0 {
				checkList(t, what, p, code, nil, impl.ErrNotFound)
			} else {
				checkList(t, what, p, code, wideList(found[0]), impl.ErrNone)
			}
			if reflect.DeepEqual(least[first], least[second]) != (len(found) > 0) {
				t.Errorf("the least forms of %s and %s are %v and %v", first, second, least[first], least[second])
			}
		}
	}
}

func TestRingsOfDifferentRanks(t *testing.T) {
	for _, test := range [][2]impl.Ring{
		{groupCube(1, sums(1)), groupCube(2, sums(2))},
		{groupCube(2, sums(2)), groupCube(1, sums(1))},
		{groupCube(3, sums(3)), nearCube(3, sums(3), 0)},
		{groupCube(16, sums(16)), nearCube(14, sums(14), 0)},
		{groupCube(8, sums(8)), groupCube(16, sums(16))},
	} {
		got, code := impl.RingIsomorphism(test[0], test[1])
		checkList(t, "RingIsomorphism", got, code, nil, impl.ErrNotFound)
	}
}

func TestIsomorphismsOfGreatRings(t *testing.T) {
	great, s := greatRings(), &sequence{state: 41}
	for first, r := range great {
		for second := range great {
			other, _ := s.shuffled(great[second])
			p, code := impl.RingIsomorphism(r, other)
			if first != second {
				checkList(t, "RingIsomorphism from "+first+" to "+second, p, code, nil, impl.ErrNotFound)
				continue
			}
			images := []int{}
			for _, a := range p {
				images = append(images, int(a))
			}
			if code != impl.ErrNone || !leadsTo(r, other, images) {
				t.Errorf("RingIsomorphism from and to %s = %v, %d", first, p, code)
			}
			p, code = impl.RingIsomorphism(other, other)
			identity := []int64{}
			for i := range other.Table {
				identity = append(identity, int64(i))
			}
			checkList(t, "RingIsomorphism from a ring to itself, "+first, p, code, identity, impl.ErrNone)
		}
	}
}

// automorphismsOf has all automorphisms of the group of orders, found by the images of those with
// one number other than 0, which is 1.
func automorphismsOf(orders []int) [][]int {
	n, plus, found := 1, sums(orders...), [][]int{}
	for _, order := range orders {
		n *= order
	}
	total := 1
	for range orders {
		total *= n
	}
	for number := range total {
		images := []int{0}
		rest := number
		for _, order := range orders {
			image := rest % n
			rest /= n
			longer := []int{}
			for _, base := range images {
				for range order {
					longer = append(longer, base)
					base = plus(base, image)
				}
			}
			images = longer
		}
		if leadsElements(images, n, plus) {
			found = append(found, images)
		}
	}
	return found
}

// leadsElements tells whether different elements have different images and sums are kept.
func leadsElements(images []int, n int, plus func(a, b int) int) bool {
	if len(slices.Compact(slices.Sorted(slices.Values(images)))) != n {
		return false
	}
	for a := range n {
		for b := range n {
			if images[plus(a, b)] != plus(images[a], images[b]) {
				return false
			}
		}
	}
	return true
}

func TestLeastIsomorphismsOfGreatRings(t *testing.T) {
	s := &sequence{state: 43}
	for _, orders := range [][]int{{16}, {2, 2, 2, 2}, {4, 4}, {4, 2, 2}, {8, 2}, {3, 5}, {2, 2, 2}} {
		automorphisms := automorphismsOf(orders)
		r := groupCube(len(automorphisms[0]), sums(orders...))
		other, labels := s.shuffled(r)
		want := []int{len(labels)}
		for _, images := range automorphisms {
			p := []int{}
			for _, a := range images {
				p = append(p, slices.Index(labels, a))
			}
			if slices.Compare(p, want) < 0 {
				want = p
			}
		}
		got, code := impl.RingIsomorphism(r, other)
		checkList(t, "RingIsomorphism", got, code, wideList(want), impl.ErrNone)
	}
	// No other isomorphism: each label has another dimension, or is even where the other is odd.
	r := spinCube(15)
	other, labels := s.shuffled(r)
	want := []int{}
	for i := range labels {
		want = append(want, slices.Index(labels, i))
	}
	got, code := impl.RingIsomorphism(r, other)
	checkList(t, "RingIsomorphism of spins", got, code, wideList(want), impl.ErrNone)
}

func TestIsomorphismsInHardOrders(t *testing.T) {
	// The first labels are a half of the group without products in it, so that they tell little
	// about one another.
	s := &sequence{state: 47}
	labels := []int{0, 8, 9, 10, 11, 12, 13, 14, 15, 1, 2, 3, 4, 5, 6, 7}
	r := takeLabels(groupCube(16, sums(2, 2, 2, 2)), labels)
	for range 10 {
		other, _ := s.shuffled(r)
		if _, code := impl.RingIsomorphism(r, other); code != impl.ErrNone {
			t.Errorf("RingIsomorphism returns %d", code)
		}
		for _, orders := range [][]int{{4, 2, 2}, {4, 4}, {8, 2}} {
			none, _ := s.shuffled(groupCube(16, sums(orders...)))
			if _, code := impl.RingIsomorphism(r, none); code != impl.ErrNotFound {
				t.Errorf("RingIsomorphism to another group returns %d", code)
			}
		}
	}
}

func TestCountRingAutomorphisms(t *testing.T) {
	for name, r := range allRings() {
		count, code := impl.CountRingAutomorphisms(r)
		if len(r.Table) > impl.MaxForm {
			checkNumber(t, "CountRingAutomorphisms "+name, count, code, 0, impl.ErrLimit)
			continue
		}
		want := int64(len(isomorphismsBetween(r, r)))
		checkNumber(t, "CountRingAutomorphisms "+name, count, code, want, impl.ErrNone)
	}
	for _, test := range []struct {
		ring impl.Ring
		want int64
	}{
		{groupCube(1, sums(1)), 1}, {fibonacci, 1}, {groupCube(3, sums(3)), 2}, {groupCube(4, sums(2, 2)), 6},
		{groupCube(7, sums(7)), 6}, {groupCube(6, twisted(3, 2, 2)), 6}, {spinCube(5), 1}, {spinCube(6), 2}, {nearCube(6, sums(6), 6), 2},
	} {
		count, code := impl.CountRingAutomorphisms(test.ring)
		checkNumber(t, "CountRingAutomorphisms", count, code, test.want, impl.ErrNone)
	}
}

// numbersIn has the numbers of a ring, in the order of tables, rows and columns.
func numbersIn(r impl.Ring) []int64 {
	numbers := []int64{}
	for _, rows := range r.Table {
		numbers = append(numbers, slices.Concat(rows...)...)
	}
	return numbers
}

func TestLeastRing(t *testing.T) {
	for name, r := range allRings() {
		got, code := impl.LeastRing(r)
		if len(r.Table) > impl.MaxForm {
			checkRing(t, "LeastRing "+name, got, code, impl.Ring{}, impl.ErrLimit)
			continue
		}
		want := r
		for _, p := range permutationsOf(len(r.Table)) {
			if other := takeLabels(r, p); slices.Compare(numbersIn(other), numbersIn(want)) < 0 {
				want = other
			}
		}
		checkRing(t, "LeastRing "+name, got, code, want, impl.ErrNone)
		if !impl.IsRing(got) {
			t.Errorf("the least form of %s is no ring", name)
		}
	}
}

// textOf is the text of a ring.
func textOf(r impl.Ring) string {
	parts := []string{}
	for _, rows := range r.Table {
		part := ""
		for _, a := range slices.Concat(rows...) {
			part += " " + strconv.FormatInt(a, 10)
		}
		parts = append(parts, part[1:])
	}
	return strings.Join(parts, "/")
}

func TestTextsOfRings(t *testing.T) {
	rings := allRings()
	rings["near 15 with 999"] = nearCube(15, sums(15), 999)
	for name, r := range rings {
		text, code := impl.RingText(r)
		if text != textOf(r) || code != impl.ErrNone {
			t.Errorf("RingText %s = %q, %d", name, text, code)
		}
		got, code := impl.ParseRing(textOf(r))
		checkRing(t, "ParseRing "+name, got, code, r, impl.ErrNone)
	}
	for text, r := range map[string]impl.Ring{
		"1":                  groupCube(1, sums(1)),
		"1 0 0 1/0 1 1 1":    fibonacci,
		"1 0 0 1/0 1 1 0":    groupCube(2, sums(2)),
		"1 0 0 1/0 1 1 1000": nearCube(1, sums(1), 1000),
		"1 0 0 0 1 0 0 0 1/0 1 0 1 0 0 0 0 1/0 0 1 0 0 1 1 1 0": nearCube(2, sums(2), 0),
	} {
		got, code := impl.RingText(r)
		if got != text || code != impl.ErrNone {
			t.Errorf("RingText = %q, %d, want %q", got, code, text)
		}
		parsed, code := impl.ParseRing(text)
		checkRing(t, "ParseRing "+text, parsed, code, r, impl.ErrNone)
	}
}

func TestParseRingErrors(t *testing.T) {
	texts := []string{
		"", " ", "/", "0", "2", "-1", "+1", "01", "1 ", " 1", "1/", "/1", "1/1", "1 1", "1\n", "\t1", "1.0", "x", "１", "1,0",
		"1 0 0 1", "1 0 0 1/", "1 0 0 1/0 1 1", "1 0 0 1/0 1 1 1 0", "1 0 0/0 1 1 1", "1 0 0 1 /0 1 1 1", "1 0 0 1/ 0 1 1 1",
		"1  0 0 1/0 1 1 1", "1 0 0 1/0 1 1  1", " 1 0 0 1/0 1 1 1", "1 0 0 1/0 1 1 1 ", "1 0 0 1/0 1 1 1/", "/1 0 0 1/0 1 1 1",
		"1 0 0 1//0 1 1 1", "1 0 0 1/0 1 1 01", "1 0 0 1/0 1 1 +1", "1 0 0 1/0 1 1 -1", "1 -0 0 1/0 1 1 1", "1 00 0 1/0 1 1 1",
		"1 0 0 1/0 1 1 1001", "1 0 0 1/0 1 1 1_0", "1 0 0 1/0 1 1 0x1", "1 0 0 1/0 1 1 1e1", "1 0 0 1/0 1 1 99999999999999999999",
		"1 0 0 1/0 1 1 9223372036854775807", "1 0 0 1/0 1 1 18446744073709551617", "1 0 0 1/0 1 2 1", "1 0 0 1/0 1 0 1",
		"1 0 0 1\n0 1 1 1", "1 0 0 1|0 1 1 1", "1\t0 0 1/0 1 1 1", "1 0/0 1/0 1/1 1", "1 0 0 1 0 1 1 1", "1 0 0 1/0 1 1 \x00",
		strings.Repeat("1/", 100000), strings.Repeat("1 ", 100000), strings.Repeat("/", 100000), strings.Repeat("9", 100000),
	}
	for _, r := range noRings() {
		texts = append(texts, textOf(r))
	}
	for _, r := range []impl.Ring{groupCube(17, sums(17)), nearCube(16, sums(16), 0)} {
		texts = append(texts, textOf(r))
	}
	for _, text := range texts {
		got, code := impl.ParseRing(text)
		checkRing(t, "ParseRing "+strconv.Quote(text[:min(len(text), 40)]), got, code, impl.Ring{}, impl.ErrSyntax)
	}
}

func TestParseRingOfChangedTexts(t *testing.T) {
	// A text is that of a ring exactly if it is the text of what is parsed.
	text := "1 0 0 0 1 0 0 0 1/0 1 0 1 0 0 0 0 1/0 0 1 0 0 1 1 1 0"
	for place := range text {
		for _, with := range []string{"", " ", "/", "0", "1", "2", "-", "+", "00", "10", "\n"} {
			changed := text[:place] + with + text[place+1:]
			got, code := impl.ParseRing(changed)
			isRing := code == impl.ErrNone
			if isRing && textOf(got) != changed || !isRing && (code != impl.ErrSyntax || got.Table != nil) {
				t.Errorf("ParseRing %q = %v, %d", changed, got.Table, code)
			}
			if changed == text && !isRing {
				t.Errorf("ParseRing %q returns %d", changed, code)
			}
		}
	}
	// 1 in place of the last 0 makes a ring too.
	if _, code := impl.ParseRing(text[:len(text)-1] + "1"); code != impl.ErrNone {
		t.Errorf("ParseRing of the near-group ring returns %d", code)
	}
}

// roomyRing copies a ring into lists with room behind them, all of it filled.
func roomyRing(r impl.Ring) impl.Ring {
	tables := make([][][]int64, len(r.Table), len(r.Table)+1)
	for i, rows := range r.Table {
		tables[i] = roomy(rows)
	}
	tables[:len(tables)+1][len(tables)] = table{{5}}
	return impl.Ring{Table: tables}
}

// wholeRing copies a ring with the room behind its lists.
func wholeRing(r impl.Ring) [][][]int64 {
	whole := [][][]int64{}
	for _, rows := range r.Table[:cap(r.Table)] {
		whole = append(whole, wholeOf(rows))
	}
	return whole
}

func TestRingsAreNotModified(t *testing.T) {
	for name, ring := range allRings() {
		r, s := roomyRing(ring), roomyRing(takeLabels(ring, permutationsOf(min(len(ring.Table), 7))[0]))
		x := append(repeated(2, len(ring.Table)), 3, 4)[:len(ring.Table)]
		wholeR, wholeS := wholeRing(r), wholeRing(s)
		impl.IsRing(r)
		impl.RingFault(r)
		impl.MultiplyVectors(r, x, x)
		impl.RingIsomorphism(r, s)
		impl.RingIsomorphism(s, r)
		for _, function := range ringFunctions() {
			function(r)
		}
		if !reflect.DeepEqual(wholeRing(r), wholeR) || !reflect.DeepEqual(wholeRing(s), wholeS) {
			t.Errorf("the ring %s became %v, %v", name, r, s)
		}
		if !slices.Equal(x[:len(x)+2], append(repeated(2, len(x)), 3, 4)) {
			t.Errorf("the vector became %v", x[:len(x)+2])
		}
	}
}

func TestRingResultsShareNoMemory(t *testing.T) {
	for _, r := range []impl.Ring{groupCube(1, sums(1)), fibonacci, groupCube(6, twisted(3, 2, 2)), groupCube(7, sums(7))} {
		old := copyRing(r)
		for name, function := range map[string]func() (impl.Ring, int64){
			"OppositeRing": func() (impl.Ring, int64) { return impl.OppositeRing(r) },
			"LeastRing":    func() (impl.Ring, int64) { return impl.LeastRing(r) },
			"LeastRing twice": func() (impl.Ring, int64) {
				least, _ := impl.LeastRing(r)
				return impl.LeastRing(least)
			},
			"ParseRing": func() (impl.Ring, int64) { return impl.ParseRing(textOf(r)) },
		} {
			got, code := function()
			if code != impl.ErrNone {
				t.Errorf("%s returns %d", name, code)
			}
			overwrite(t, name, got)
			if !reflect.DeepEqual(r, old) {
				t.Errorf("%s shares memory with its argument", name)
			}
		}
	}
	x, y := []int64{1, 0}, []int64{3, 4}
	product, _ := impl.MultiplyVectors(fibonacci, x, y)
	product[0] = 9
	product, _ = impl.MultiplyVectors(fibonacci, y, x)
	product[0] = 9
	power, _ := impl.PowerOfLabel(fibonacci, 0, 1)
	power[0] = 9
	if !slices.Equal(x, []int64{1, 0}) || !slices.Equal(y, []int64{3, 4}) || fibonacci.Table[0][0][0] != 1 {
		t.Errorf("MultiplyVectors or PowerOfLabel shares memory with its arguments")
	}
}

// overwrite writes into each row of a ring and behind it, which must be seen nowhere else.
func overwrite(t *testing.T, name string, r impl.Ring) {
	t.Helper()
	want := copyRing(r)
	for i, rows := range r.Table {
		for j := range rows {
			row := append(rows[j], 5, 5, 5)
			for k := range row {
				row[k] = 5
			}
			copy(rows[j], row)
			want.Table[i][j] = repeated(5, len(rows[j]))
			if !reflect.DeepEqual(r, want) {
				t.Errorf("%s: rows share memory: %v", name, r)
			}
		}
	}
}

func TestRingsAtOnce(t *testing.T) {
	results := make(chan string)
	r := groupCube(7, sums(7))
	for range 8 {
		go func() {
			least, _ := impl.LeastRing(r)
			text, _ := impl.RingText(least)
			results <- text
		}()
	}
	least, _ := impl.LeastRing(r)
	for range 8 {
		if text := <-results; text != textOf(least) {
			t.Errorf("the least form is %s", text)
		}
	}
}
