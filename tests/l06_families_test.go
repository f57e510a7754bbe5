package tests

import (
	"math"
	"reflect"
	"slices"
	"testing"

	"loop.example/g01132/impl"
)

// dihedralRows has the values of the characters of the dihedral group with 2 n elements, in the order
// of the labels: at the n rotations, at the reflection before all others, and at the one behind it.
// With even n there are n / 2 reflections like either of them, and with odd n all are alike.
func dihedralRows(n int) [][]float64 {
	rows := [][]float64{}
	add := func(h int, scale, reflection, next float64) {
		row := []float64{}
		for m := range n {
			row = append(row, scale*math.Cos(2*math.Pi*float64(h*m)/float64(n)))
		}
		rows = append(rows, append(row, reflection, next))
	}
	add(0, 1, 1, 1)
	add(0, 1, -1, -1)
	if n%2 == 0 {
		add(n/2, 1, 1, -1)
		add(n/2, 1, -1, 1)
	}
	for h := 1; 2*h < n; h++ {
		add(h, 2, 0, 0)
	}
	return rows
}

// dihedralCube makes the ring of the characters of the dihedral group with 2 n elements from their
// values: how often one is in the product of two is the mean of the products of all three.
func dihedralCube(n int) impl.Ring {
	rows := dihedralRows(n)
	return cubeOf(len(rows), func(i, j, k int) int64 {
		sum := 0.0
		for place := range rows[0] {
			product := rows[i][place] * rows[j][place] * rows[k][place]
			if place >= n {
				product *= float64(n) / 2
			}
			sum += product
		}
		return int64(math.Round(sum / float64(2*n)))
	})
}

// dihedralDimensions has the values at the identity: 1 before V(1), and 2 from there on.
func dihedralDimensions(n int64) []int64 {
	if n%2 == 0 {
		return append(repeated(1, 4), repeated(2, int(n/2-1))...)
	}
	return append(repeated(1, 2), repeated(2, int((n-1)/2))...)
}

func TestDihedralRing(t *testing.T) {
	for n := int64(1); n <= 18; n++ {
		got, code := impl.DihedralRing(n)
		checkRing(t, call("DihedralRing", n), got, code, dihedralCube(int(n)), impl.ErrNone)
		commutative, _ := impl.IsCommutativeRing(got)
		selfDual, _ := impl.IsSelfDual(got)
		if !impl.IsRing(got) || !commutative || !selfDual {
			t.Errorf("%s is a ring: %v, commutative: %v, self-dual: %v", call("DihedralRing", n), impl.IsRing(got), commutative, selfDual)
		}
	}
}

func TestTextsOfDihedralRings(t *testing.T) {
	for n, want := range []string{
		1: "1 0 0 1/0 1 1 0",
		2: "1 0 0 0 0 1 0 0 0 0 1 0 0 0 0 1/0 1 0 0 1 0 0 0 0 0 0 1 0 0 1 0/" +
			"0 0 1 0 0 0 0 1 1 0 0 0 0 1 0 0/0 0 0 1 0 0 1 0 0 1 0 0 1 0 0 0",
		3: "1 0 0 0 1 0 0 0 1/0 1 0 1 0 0 0 0 1/0 0 1 0 0 1 1 1 1",
		4: "1 0 0 0 0 0 1 0 0 0 0 0 1 0 0 0 0 0 1 0 0 0 0 0 1/" +
			"0 1 0 0 0 1 0 0 0 0 0 0 0 1 0 0 0 1 0 0 0 0 0 0 1/" +
			"0 0 1 0 0 0 0 0 1 0 1 0 0 0 0 0 1 0 0 0 0 0 0 0 1/" +
			"0 0 0 1 0 0 0 1 0 0 0 1 0 0 0 1 0 0 0 0 0 0 0 0 1/" +
			"0 0 0 0 1 0 0 0 0 1 0 0 0 0 1 0 0 0 0 1 1 1 1 1 0",
		5: "1 0 0 0 0 1 0 0 0 0 1 0 0 0 0 1/0 1 0 0 1 0 0 0 0 0 1 0 0 0 0 1/" +
			"0 0 1 0 0 0 1 0 1 1 0 1 0 0 1 1/0 0 0 1 0 0 0 1 0 0 1 1 1 1 1 0",
		6: "1 0 0 0 0 0 0 1 0 0 0 0 0 0 1 0 0 0 0 0 0 1 0 0 0 0 0 0 1 0 0 0 0 0 0 1/" +
			"0 1 0 0 0 0 1 0 0 0 0 0 0 0 0 1 0 0 0 0 1 0 0 0 0 0 0 0 1 0 0 0 0 0 0 1/" +
			"0 0 1 0 0 0 0 0 0 1 0 0 1 0 0 0 0 0 0 1 0 0 0 0 0 0 0 0 0 1 0 0 0 0 1 0/" +
			"0 0 0 1 0 0 0 0 1 0 0 0 0 1 0 0 0 0 1 0 0 0 0 0 0 0 0 0 0 1 0 0 0 0 1 0/" +
			"0 0 0 0 1 0 0 0 0 0 1 0 0 0 0 0 0 1 0 0 0 0 0 1 1 1 0 0 0 1 0 0 1 1 1 0/" +
			"0 0 0 0 0 1 0 0 0 0 0 1 0 0 0 0 1 0 0 0 0 0 1 0 0 0 1 1 1 0 1 1 0 0 0 1",
	} {
		if n == 0 {
			continue
		}
		ring, code := impl.DihedralRing(int64(n))
		if code != impl.ErrNone || textOf(ring) != want {
			t.Errorf("%s has the text %s, %d, want %s", call("DihedralRing", int64(n)), textOf(ring), code, want)
		}
	}
}

func TestGreatestDihedralRings(t *testing.T) {
	for _, test := range []struct {
		n, i, j int64
		want    []int64
	}{
		// V(1) is the label 2, and V(8), the last one, times V(8) is V(16), which is V(1), and V(0).
		{17, 9, 9, []int64{1, 1, 1, 0, 0, 0, 0, 0, 0, 0}},
		{17, 9, 2, []int64{0, 0, 0, 0, 0, 0, 0, 0, 1, 1}},
		{17, 1, 9, []int64{0, 0, 0, 0, 0, 0, 0, 0, 0, 1}},
		// V(1) is the label 4, and V(8), the last one, times V(1) is V(9), which is 2 and 3, and V(7).
		{18, 11, 4, []int64{0, 0, 1, 1, 0, 0, 0, 0, 0, 0, 1, 0}},
		{18, 11, 11, []int64{1, 1, 0, 0, 0, 1, 0, 0, 0, 0, 0, 0}},
		{18, 2, 11, []int64{0, 0, 0, 0, 1, 0, 0, 0, 0, 0, 0, 0}},
		{18, 5, 3, []int64{0, 0, 0, 0, 0, 0, 0, 0, 0, 0, 1, 0}},
		{18, 2, 3, []int64{0, 1, 0, 0, 0, 0, 0, 0, 0, 0, 0, 0}},
	} {
		ring, _ := impl.DihedralRing(test.n)
		n := int64(len(ring.Table))
		if n != int64(len(test.want)) {
			t.Errorf("%s has %d labels", call("DihedralRing", test.n), n)
			continue
		}
		if got := ring.Table[test.i][test.j]; !slices.Equal(got, test.want) {
			t.Errorf("in %s the product of %d and %d is %v, want %v", call("DihedralRing", test.n), test.i, test.j, got, test.want)
		}
	}
}

func TestDihedralRingErrors(t *testing.T) {
	for _, n := range []int64{0, -1, 19, 20, -18, math.MinInt64, math.MaxInt64} {
		ring, code := impl.DihedralRing(n)
		if ring.Table != nil || code != impl.ErrRange {
			t.Errorf("%s = %v, %d, want no table, %d", call("DihedralRing", n), ring, code, impl.ErrRange)
		}
	}
}

func TestDimensionsOfDihedralRings(t *testing.T) {
	for n := int64(1); n <= 18; n++ {
		ring, want := dihedralCube(int(n)), dihedralDimensions(n)
		if got, _ := impl.DihedralRing(n); !reflect.DeepEqual(got, ring) {
			t.Errorf("%s is another ring", call("DihedralRing", n))
			continue
		}
		dimensions, code := impl.IntegerDimensions(ring)
		checkList(t, call("IntegerDimensions of a dihedral ring", n), dimensions, code, want, impl.ErrNone)
		whole, code := impl.WholeDimension(ring)
		checkNumber(t, call("WholeDimension of a dihedral ring", n), whole, code, 2*n, impl.ErrNone)
		is, code := impl.IsDimension(ring, want)
		checkBool(t, call("IsDimension of a dihedral ring", n), is, code, true, impl.ErrNone)
		invertible, code := impl.InvertibleLabels(ring)
		checkList(t, call("InvertibleLabels of a dihedral ring", n), invertible, code, invertibleIn(ring), impl.ErrNone)
		pointed, code := impl.IsPointedRing(ring)
		checkBool(t, call("IsPointedRing of a dihedral ring", n), pointed, code, n <= 2, impl.ErrNone)
		last := int64(len(want) - 1)
		for step, weights := range wantedWeights(ring) {
			bounds, code := impl.BoundsOf(ring, last, int64(step))
			checkBounds(t, call("BoundsOf a dihedral ring", n, int64(step)), bounds, code, wantedBounds(ring, int(last), weights), impl.ErrNone)
		}
	}
}

func TestDihedralRingsAreNew(t *testing.T) {
	for _, n := range []int64{1, 2, 3, 17, 18} {
		first, _ := impl.DihedralRing(n)
		second, _ := impl.DihedralRing(n)
		overwrite(t, call("DihedralRing", n), first)
		checkRing(t, call("DihedralRing", n), second, impl.ErrNone, dihedralCube(int(n)), impl.ErrNone)
	}
}

// elementsOf has the elements of the group of orders, each one at its number.
func elementsOf(orders []int64) table {
	lists := table{{}}
	for _, order := range orders {
		longer := table{}
		for _, list := range lists {
			for x := range order {
				longer = append(longer, append(slices.Clone(list), x))
			}
		}
		lists = longer
	}
	elements := make(table, len(lists))
	for _, list := range lists {
		number := list[0]
		for place := 1; place < len(list); place++ {
			number = number*orders[place] + list[place]
		}
		elements[number] = list
	}
	return elements
}

// elementSums has the sums of the elements of the group of orders, added place by place, and their
// number.
func elementSums(orders []int64) (int, func(a, b int) int) {
	elements := elementsOf(orders)
	numbers := tableOfGroup(len(elements), func(a, b int) int {
		sum := []int64{}
		for place, order := range orders {
			sum = append(sum, (elements[a][place]+elements[b][place])%order)
		}
		return slices.IndexFunc(elements, func(x []int64) bool { return slices.Equal(x, sum) })
	})
	return len(elements), func(a, b int) int { return int(numbers[a][b]) }
}

// ordersWithin has all lists of at most some orders with at most some number of elements.
func ordersWithin(length int, most int64) table {
	lists := table{}
	for m := int64(1); m <= most; m++ {
		lists = append(lists, []int64{m})
		if length == 1 {
			continue
		}
		for _, rest := range ordersWithin(length-1, most/m) {
			lists = append(lists, append([]int64{m}, rest...))
		}
	}
	return lists
}

// someOrders has lists of one order and of many, with ones among them, and some of more than 16
// elements.
func someOrders() table {
	return append(ordersWithin(4, 18), repeated(1, 40), append(repeated(1, 30), 16), append([]int64{16}, repeated(1, 30)...),
		[]int64{2, 1, 2, 1, 2, 1, 2}, []int64{1, 1, 3, 1, 5, 1}, []int64{2, 2, 2, 2, 2}, []int64{1, 1, 17, 1, 1})
}

// noOrders has lists that are not of orders. Some of them would have too many elements as well.
var noOrders = table{
	nil, {}, {0}, {-1}, {-3}, {math.MinInt64}, {0, 0}, {2, 0}, {0, 2}, {2, -3}, {-3, 2}, {-2, -2}, {-1, -1}, {-4, -4}, {1, 1, 1, 0},
	{17, 0}, {0, 17}, {2, 2, 2, 2, 2, 0}, {math.MaxInt64, math.MaxInt64, 0}, {1 << 32, 1 << 32, -1}, {0, math.MaxInt64}, {math.MinInt64, 2},
}

// greatOrders has orders of more than 16 elements. The products of many of them exceed the numbers
// of any machine, with remainders by 2^64 such as 0, 1, 2, 16 and -2.
var greatOrders = table{
	{17}, {18}, {2, 9}, {9, 2}, {4, 5}, {3, 3, 2}, {16, 2}, {2, 16}, {16, 16}, {2, 2, 2, 2, 2}, {1, 17, 1},
	{1000}, {1 << 31}, {1 << 32}, {1 << 62}, {math.MaxInt64}, {1 << 32, 1 << 32}, {1 << 62, 4}, {4, 1 << 62}, {16, 1 << 60}, {1 << 60, 16},
	{math.MaxInt64, math.MaxInt64}, {math.MaxInt64, 2}, {2, math.MaxInt64}, {3, 6148914691236517206}, {6148914691236517206, 3},
	{1 << 62, 1 << 62, 1 << 62}, {1, 1 << 62, 1, 4, 1}, {1 << 34, 1<<30 + 1, 16}, {5, 3689348814741910323, 1, 1}, {16, 5, 3689348814741910323},
	repeated(2, 64), repeated(2, 68), repeated(math.MaxInt64, 16), append(repeated(1, 40), 17),
}

// orderFamily is a function of orders, with the same rings written anew, and how many labels they
// have that are no elements.
type orderFamily struct {
	name string
	ring func(orders []int64) (impl.Ring, int64)
	cube func(n int, times func(a, b int) int) impl.Ring
	more int
}

func nearFamily(k int64) orderFamily {
	return orderFamily{
		call("NearGroup with k", k),
		func(orders []int64) (impl.Ring, int64) { return impl.NearGroup(orders, k) },
		func(n int, times func(a, b int) int) impl.Ring { return nearCube(n, times, k) },
		1,
	}
}

func orderFamilies() []orderFamily {
	families := []orderFamily{
		{"GroupRing", impl.GroupRing, groupCube, 0},
		{"TambaraYamagami", impl.TambaraYamagami, nearFamily(0).cube, 1},
	}
	for _, k := range []int64{0, 1, 2, 999, 1000} {
		families = append(families, nearFamily(k))
	}
	return families
}

func TestRingsOfOrders(t *testing.T) {
	codes := map[int64]int{}
	for _, orders := range someOrders() {
		n, times := elementSums(orders)
		for _, family := range orderFamilies() {
			want, wantCode := impl.Ring{}, int64(impl.ErrLimit)
			if n+family.more <= 16 {
				want, wantCode = family.cube(n, times), impl.ErrNone
			}
			got, code := family.ring(orders)
			checkRing(t, call(family.name, orders...), got, code, want, wantCode)
			if impl.IsRing(got) != (wantCode == impl.ErrNone) {
				t.Errorf("%s is a ring: %v", call(family.name, orders...), impl.IsRing(got))
			}
			codes[code]++
		}
	}
	if codes[impl.ErrNone] < 1000 || codes[impl.ErrLimit] < 100 {
		t.Errorf("the codes are %v", codes)
	}
}

func TestRingsOfOrdersOfEachSize(t *testing.T) {
	for n := int64(1); n <= 18; n++ {
		for _, family := range orderFamilies() {
			got, code := family.ring([]int64{n})
			if fits := int(n)+family.more <= 16; fits != (code == impl.ErrNone) || fits != (len(got.Table) == int(n)+family.more) {
				t.Errorf("%s has %d labels, %d", call(family.name, n), len(got.Table), code)
			}
		}
	}
}

func TestListsThatAreNotOfOrders(t *testing.T) {
	for _, orders := range noOrders {
		for _, family := range append(orderFamilies(), nearFamily(-1), nearFamily(1001), nearFamily(math.MinInt64)) {
			got, code := family.ring(orders)
			checkRing(t, call(family.name, orders...), got, code, impl.Ring{}, impl.ErrInvalid)
		}
	}
}

func TestTooManyElements(t *testing.T) {
	for _, orders := range greatOrders {
		for _, family := range orderFamilies() {
			got, code := family.ring(orders)
			checkRing(t, call(family.name, orders...), got, code, impl.Ring{}, impl.ErrLimit)
		}
	}
}

func TestNumbersOfNearGroupRings(t *testing.T) {
	lists := append(table{{1}, {2}, {15}, {3, 5}, {1, 1}, {16}}, greatOrders...)
	for _, k := range []int64{-1, -2, -1000, 1001, 1002, 1 << 32, math.MinInt64, math.MaxInt64} {
		for _, orders := range lists {
			got, code := impl.NearGroup(orders, k)
			checkRing(t, call(call("NearGroup", orders...), k), got, code, impl.Ring{}, impl.ErrRange)
		}
	}
	for _, k := range []int64{0, 1, 999, 1000} {
		for _, n := range []int64{1, 2, 15} {
			got, code := impl.NearGroup([]int64{n}, k)
			if code != impl.ErrNone || len(got.Table) != int(n+1) || got.Table[n][n][n] != k || got.Table[n][n][0] != 1 {
				t.Errorf("%s = %v, %d", call("NearGroup", n, k), got, code)
			}
		}
	}
}

// affine is the product of the dihedral group of n, by numbers: i stands for the map from x to x + i,
// and n + i for that from x to i - x, with remainders by n. The map of b comes first.
func affine(n int) func(a, b int) int {
	sign := func(a int) int { return 1 - a/n*2 }
	return func(a, b int) int {
		shift := (a%n + sign(a)*(b%n) + n) % n
		if sign(a)*sign(b) < 0 {
			return n + shift
		}
		return shift
	}
}

func TestDihedralGroupRing(t *testing.T) {
	for n := 1; n <= 8; n++ {
		what := call("DihedralGroupRing", int64(n))
		got, code := impl.DihedralGroupRing(int64(n))
		checkRing(t, what, got, code, groupCube(2*n, affine(n)), impl.ErrNone)
		commutative, _ := impl.IsCommutativeRing(got)
		if !impl.IsRing(got) || commutative != (n <= 2) {
			t.Errorf("%s is a ring: %v, commutative: %v", what, impl.IsRing(got), commutative)
		}
		if _, code := impl.RingIsomorphism(got, groupCube(2*n, twisted(n, 2, n-1))); code != impl.ErrNone {
			t.Errorf("%s is the ring of another group, %d", what, code)
		}
	}
}

func TestDihedralGroupRingErrors(t *testing.T) {
	for _, n := range []int64{0, -1, 9, 10, 16, 17, -8, 1 << 62, math.MinInt64, math.MaxInt64} {
		got, code := impl.DihedralGroupRing(n)
		checkRing(t, call("DihedralGroupRing", n), got, code, impl.Ring{}, impl.ErrRange)
	}
}

// spinSums makes the ring of spins of a level from the sines that diagonalize it.
func spinSums(level int) impl.Ring {
	sine := func(a, b int) float64 { return math.Sin(math.Pi * float64((a+1)*(b+1)) / float64(level+2)) }
	return cubeOf(level+1, func(i, j, k int) int64 {
		sum := 0.0
		for m := range level + 1 {
			sum += sine(i, m) * sine(j, m) * sine(k, m) / sine(0, m)
		}
		return int64(math.Round(sum * 2 / float64(level+2)))
	})
}

func TestSpinRing(t *testing.T) {
	for k := 0; k <= 15; k++ {
		got, code := impl.SpinRing(int64(k))
		checkRing(t, call("SpinRing", int64(k)), got, code, spinSums(k), impl.ErrNone)
		if !impl.IsRing(got) {
			t.Errorf("%s is no ring", call("SpinRing", int64(k)))
		}
	}
	for _, k := range []int64{-1, -2, 16, 17, 31, -16, 1 << 62, math.MinInt64, math.MaxInt64} {
		got, code := impl.SpinRing(k)
		checkRing(t, call("SpinRing", k), got, code, impl.Ring{}, impl.ErrRange)
	}
}

func TestEvenSpinRing(t *testing.T) {
	for k := 0; k <= 31; k++ {
		even := []int{}
		for label := 0; label <= k; label += 2 {
			even = append(even, label)
		}
		got, code := impl.EvenSpinRing(int64(k))
		checkRing(t, call("EvenSpinRing", int64(k)), got, code, takeLabels(spinSums(k), even), impl.ErrNone)
		if !impl.IsRing(got) {
			t.Errorf("%s is no ring", call("EvenSpinRing", int64(k)))
		}
	}
	for _, k := range []int64{-1, -2, 32, 33, -32, 1 << 62, math.MinInt64, math.MaxInt64} {
		got, code := impl.EvenSpinRing(k)
		checkRing(t, call("EvenSpinRing", k), got, code, impl.Ring{}, impl.ErrRange)
	}
}

// made is what a function of the chapter returns, and the call.
type made struct {
	what string
	ring impl.Ring
	code int64
}

func madeBy(function func(int64) (impl.Ring, int64), name string, n int64) made {
	ring, code := function(n)
	return made{call(name, n), ring, code}
}

func groupRing(orders ...int64) made {
	ring, code := impl.GroupRing(orders)
	return made{call("GroupRing", orders...), ring, code}
}

func tambaraYamagami(orders ...int64) made {
	ring, code := impl.TambaraYamagami(orders)
	return made{call("TambaraYamagami", orders...), ring, code}
}

func nearGroup(k int64, orders ...int64) made {
	ring, code := impl.NearGroup(orders, k)
	return made{call(call("NearGroup", orders...), k), ring, code}
}

func dihedralGroupRing(n int64) made {
	return madeBy(impl.DihedralGroupRing, "DihedralGroupRing", n)
}

func dihedralRing(n int64) made { return madeBy(impl.DihedralRing, "DihedralRing", n) }

func spinRing(k int64) made { return madeBy(impl.SpinRing, "SpinRing", k) }

func evenSpinRing(k int64) made { return madeBy(impl.EvenSpinRing, "EvenSpinRing", k) }

func productRing(r made, s made) made {
	ring, code := impl.ProductRing(r.ring, s.ring)
	return made{"the product of " + r.what + " and " + s.what, ring, code}
}

func TestTextsOfFamilies(t *testing.T) {
	one, two, golden := "1", "1 0 0 1/0 1 1 0", "1 0 0 1/0 1 1 1"
	three := "1 0 0 0 1 0 0 0 1/0 1 0 0 0 1 1 0 0/0 0 1 1 0 0 0 1 0"
	near := "1 0 0 0 1 0 0 0 1/0 1 0 1 0 0 0 0 1/0 0 1 0 0 1 1 1 "
	for _, test := range []struct {
		made
		want string
	}{
		{groupRing(1), one},
		{groupRing(1, 1, 1), one},
		{groupRing(2), two},
		{groupRing(1, 2, 1), two},
		{groupRing(3), three},
		{dihedralGroupRing(1), two},
		{tambaraYamagami(1), two},
		{tambaraYamagami(2), "1 0 0 0 1 0 0 0 1/0 1 0 1 0 0 0 0 1/0 0 1 0 0 1 1 1 0"},
		{nearGroup(0, 1), two},
		{nearGroup(1, 1), golden},
		{nearGroup(1000, 1), "1 0 0 1/0 1 1 1000"},
		{nearGroup(0, 2), near + "0"},
		{nearGroup(1, 2), near + "1"},
		{nearGroup(1000, 1, 2), near + "1000"},
		{spinRing(0), one},
		{spinRing(1), two},
		{spinRing(2), "1 0 0 0 1 0 0 0 1/0 1 0 1 0 1 0 1 0/0 0 1 0 1 0 1 0 0"},
		{evenSpinRing(0), one},
		{evenSpinRing(1), one},
		{evenSpinRing(2), two},
		{evenSpinRing(3), golden},
		{evenSpinRing(4), "1 0 0 0 1 0 0 0 1/0 1 0 1 1 1 0 1 0/0 0 1 0 1 0 1 0 0"},
		{productRing(groupRing(1), groupRing(1)), one},
		{productRing(groupRing(1), groupRing(3)), three},
		{productRing(nearGroup(1, 1), groupRing(2)), "1 0 0 0 0 1 0 0 0 0 1 0 0 0 0 1/0 1 0 0 1 0 0 0 0 0 0 1 0 0 1 0/" +
			"0 0 1 0 0 0 0 1 1 0 1 0 0 1 0 1/0 0 0 1 0 0 1 0 0 1 0 1 1 0 1 0"},
		{productRing(groupRing(2), nearGroup(1, 1)), "1 0 0 0 0 1 0 0 0 0 1 0 0 0 0 1/0 1 0 0 1 1 0 0 0 0 0 1 0 0 1 1/" +
			"0 0 1 0 0 0 0 1 1 0 0 0 0 1 0 0/0 0 0 1 0 0 1 1 0 1 0 0 1 1 0 0"},
	} {
		if text := textOf(test.ring); test.code != impl.ErrNone || text != test.want {
			t.Errorf("%s has the text %s, %d, want %s", test.what, text, test.code, test.want)
		}
	}
}

func TestChosenProductsInFamilies(t *testing.T) {
	for _, test := range []struct {
		made
		i, j int
		want []int
	}{
		{groupRing(2, 3), 4, 5, []int{0}},
		{groupRing(2, 3), 1, 4, []int{5}},
		{groupRing(3, 2), 3, 5, []int{0}},
		{groupRing(3, 2), 1, 4, []int{5}},
		{groupRing(3, 2), 2, 3, []int{5}},
		{groupRing(2, 4), 3, 6, []int{5}},
		{groupRing(4, 2), 3, 6, []int{1}},
		{groupRing(16), 9, 10, []int{3}},
		{groupRing(2, 2, 2, 2), 9, 10, []int{3}},
		{groupRing(4, 4), 7, 14, []int{1}},
		{groupRing(2, 2, 3), 11, 5, []int{7}},
		{dihedralGroupRing(8), 11, 2, []int{9}},
		{dihedralGroupRing(8), 2, 11, []int{13}},
		{dihedralGroupRing(8), 11, 13, []int{6}},
		{dihedralGroupRing(8), 13, 11, []int{2}},
		{dihedralGroupRing(8), 7, 3, []int{2}},
		{dihedralGroupRing(3), 3, 4, []int{2}},
		{tambaraYamagami(3, 5), 15, 15, []int{0, 1, 2, 3, 4, 5, 6, 7, 8, 9, 10, 11, 12, 13, 14}},
		{tambaraYamagami(3, 5), 15, 14, []int{15}},
		{tambaraYamagami(3, 5), 14, 14, []int{8}},
		{nearGroup(1, 2, 2), 4, 4, []int{0, 1, 2, 3, 4}},
		{nearGroup(1, 2, 2), 2, 4, []int{4}},
		{spinRing(15), 15, 15, []int{0}},
		{spinRing(15), 7, 8, []int{1, 3, 5, 7, 9, 11, 13, 15}},
		{spinRing(15), 10, 12, []int{2, 4, 6, 8}},
		{spinRing(4), 2, 2, []int{0, 2, 4}},
		{evenSpinRing(31), 15, 15, []int{0, 1}},
		{evenSpinRing(30), 15, 15, []int{0}},
		{evenSpinRing(31), 7, 8, []int{1, 2, 3, 4, 5, 6, 7, 8, 9, 10, 11, 12, 13, 14, 15}},
		{productRing(groupRing(2), evenSpinRing(5)), 4, 5, []int{1, 2}},
		{productRing(evenSpinRing(5), groupRing(2)), 3, 4, []int{3, 5}},
	} {
		want := make([]int64, len(test.ring.Table))
		for _, k := range test.want {
			want[k] = 1
		}
		if got := test.ring.Table[test.i][test.j]; !slices.Equal(got, want) {
			t.Errorf("in %s the product of %d and %d is %v, want %v", test.what, test.i, test.j, got, want)
		}
	}
}

func TestFamiliesThatAgree(t *testing.T) {
	for _, test := range []struct {
		one, other made
		equal      bool
	}{
		{groupRing(2, 4), productRing(groupRing(2), groupRing(4)), true},
		{groupRing(4, 2), productRing(groupRing(4), groupRing(2)), true},
		{groupRing(2, 3, 2), productRing(groupRing(2, 3), groupRing(2)), true},
		{groupRing(2, 3, 2), productRing(groupRing(2), groupRing(3, 2)), true},
		{groupRing(2, 2), dihedralGroupRing(2), true},
		{groupRing(2, 2), dihedralRing(2), true},
		{groupRing(2), dihedralRing(1), true},
		{groupRing(2, 4), groupRing(4, 2), false},
		{groupRing(2, 3), groupRing(3, 2), false},
		{groupRing(2, 3), groupRing(6), false},
		{nearGroup(0, 3, 5), tambaraYamagami(3, 5), true},
		{nearGroup(1, 2), dihedralRing(3), true},
		{tambaraYamagami(2, 2), dihedralRing(4), true},
		{spinRing(2), tambaraYamagami(2), false},
		{evenSpinRing(4), dihedralRing(3), false},
		{spinRing(15), productRing(evenSpinRing(15), groupRing(2)), false},
		{productRing(groupRing(2), dihedralRing(3)), dihedralRing(6), false},
		{productRing(groupRing(2), dihedralGroupRing(3)), dihedralGroupRing(6), false},
	} {
		equal := reflect.DeepEqual(test.one.ring, test.other.ring)
		_, code := impl.RingIsomorphism(test.one.ring, test.other.ring)
		if equal != test.equal || code != impl.ErrNone {
			t.Errorf("%s and %s are equal: %v, isomorphic: %d", test.one.what, test.other.what, equal, code)
		}
	}
	for _, test := range [][2]made{
		{groupRing(2, 2), groupRing(4)},
		{groupRing(2, 8), groupRing(4, 4)},
		{tambaraYamagami(2, 2), tambaraYamagami(4)},
		{dihedralGroupRing(3), groupRing(6)},
	} {
		if _, code := impl.RingIsomorphism(test[0].ring, test[1].ring); code != impl.ErrNotFound {
			t.Errorf("%s and %s are isomorphic: %d", test[0].what, test[1].what, code)
		}
	}
}

// factors has rings of all ranks up to 9, and of 15 and 16, that are commutative or not, with numbers
// up to 1000, and with their labels in other orders.
func factors() map[string]impl.Ring {
	s, all := &sequence{state: 31}, smallRings()
	for name, r := range map[string]impl.Ring{
		"of the group 8":          groupCube(8, sums(8)),
		"of the dihedral group 4": groupCube(8, twisted(4, 2, 3)),
		"of quaternions":          groupCube(8, quaternions),
		"near 3 3 with 1000":      nearCube(9, sums(3, 3), 1000),
		"near 15 with 2":          nearCube(15, sums(15), 2),
		"of spins 15":             spinCube(15),
		"near 1 with 500":         nearCube(1, sums(1), 500),
		"near 1 with 501":         nearCube(1, sums(1), 501),
		"near 1 with 32":          nearCube(1, sums(1), 32),
		"near 3 with 31":          nearCube(3, sums(3), 31),
		"near 3 with 32":          nearCube(3, sums(3), 32),
		"of characters of D4":     dihedralCube(4),
		"of characters of D5":     dihedralCube(5),
	} {
		all[name] = r
	}
	for _, name := range slices.Sorted(keysOf(all)) {
		if n := len(all[name].Table); n > 2 && n < 6 {
			all[name+", shuffled"], _ = s.shuffled(all[name])
		}
	}
	return all
}

// wantedProduct has the product of two rings, or ErrLimit.
func wantedProduct(r impl.Ring, s impl.Ring) (impl.Ring, int64) {
	if len(r.Table)*len(s.Table) > 16 {
		return impl.Ring{}, impl.ErrLimit
	}
	product := productCube(r, s)
	if slices.Max(numbersIn(product)) > 1000 {
		return impl.Ring{}, impl.ErrLimit
	}
	return product, impl.ErrNone
}

func TestProductRing(t *testing.T) {
	all, ranks, small := factors(), map[int]int{}, 0
	for name, r := range all {
		for other, s := range all {
			want, wantCode := wantedProduct(r, s)
			got, code := impl.ProductRing(r, s)
			checkRing(t, "ProductRing "+name+" and "+other, got, code, want, wantCode)
			ranks[len(got.Table)]++
			small += int(truth(wantCode == impl.ErrLimit && len(r.Table)*len(s.Table) <= 16))
			if impl.IsRing(got) != (wantCode == impl.ErrNone) {
				t.Errorf("the product %s and %s is a ring: %v", name, other, impl.IsRing(got))
			}
		}
	}
	if ranks[0] == 0 || ranks[1] == 0 || ranks[12] == 0 || ranks[15] == 0 || ranks[16] == 0 || small == 0 {
		t.Errorf("the ranks are %v, with %d numbers that are too great", ranks, small)
	}
}

func TestProductsWithOneLabel(t *testing.T) {
	one := groupCube(1, sums(1))
	for name, r := range allRings() {
		got, code := impl.ProductRing(r, one)
		checkRing(t, "ProductRing "+name+" and one label", got, code, r, impl.ErrNone)
		got, code = impl.ProductRing(one, r)
		checkRing(t, "ProductRing of one label and the ring "+name, got, code, r, impl.ErrNone)
	}
}

func TestKindsOfProducts(t *testing.T) {
	all, commutative := factors(), map[bool]int{}
	for name, r := range all {
		for other, s := range all {
			product, code := impl.ProductRing(r, s)
			if code != impl.ErrNone {
				continue
			}
			first, _ := impl.IsCommutativeRing(r)
			second, _ := impl.IsCommutativeRing(s)
			is, code := impl.IsCommutativeRing(product)
			checkBool(t, "IsCommutativeRing of the product "+name+" and "+other, is, code, first && second, impl.ErrNone)
			commutative[is]++
			want := []int64{}
			for i := range r.Table {
				for j := range s.Table {
					want = append(want, int64(partnersOf(r, i)[0]*len(s.Table)+partnersOf(s, j)[0]))
				}
			}
			duals, code := impl.DualsOf(product)
			checkList(t, "DualsOf the product "+name+" and "+other, duals, code, want, impl.ErrNone)
		}
	}
	if commutative[false] == 0 || commutative[true] == 0 {
		t.Errorf("the products are of the kinds %v", commutative)
	}
}

func TestLimitsOfProducts(t *testing.T) {
	for _, test := range []struct {
		one, other made
		code       int64
	}{
		{groupRing(4), groupRing(4), impl.ErrNone},
		{groupRing(2), spinRing(7), impl.ErrNone},
		{spinRing(7), groupRing(2), impl.ErrNone},
		{groupRing(16), groupRing(1), impl.ErrNone},
		{groupRing(1), evenSpinRing(31), impl.ErrNone},
		{groupRing(3), groupRing(5), impl.ErrNone},
		{groupRing(3), groupRing(6), impl.ErrLimit},
		{groupRing(9), groupRing(2), impl.ErrLimit},
		{groupRing(2), groupRing(9), impl.ErrLimit},
		{groupRing(4), groupRing(5), impl.ErrLimit},
		{groupRing(2), groupRing(16), impl.ErrLimit},
		{groupRing(16), groupRing(16), impl.ErrLimit},
		{nearGroup(1000, 1), groupRing(8), impl.ErrNone},
		{groupRing(1), nearGroup(1000, 15), impl.ErrNone},
		{nearGroup(1000, 1), nearGroup(1, 3), impl.ErrNone},
		{nearGroup(1, 3), nearGroup(1000, 1), impl.ErrNone},
		{nearGroup(500, 3), nearGroup(2, 3), impl.ErrNone},
		{nearGroup(25, 1), nearGroup(40, 7), impl.ErrNone},
		{nearGroup(77, 1), nearGroup(13, 1), impl.ErrLimit},
		{nearGroup(13, 3), nearGroup(77, 3), impl.ErrLimit},
		{nearGroup(167, 7), nearGroup(6, 1), impl.ErrLimit},
		{nearGroup(31, 1), nearGroup(32, 1), impl.ErrNone},
		{nearGroup(32, 1), nearGroup(32, 1), impl.ErrLimit},
		{nearGroup(1000, 1), nearGroup(2, 1), impl.ErrLimit},
		{nearGroup(2, 1), nearGroup(1000, 1), impl.ErrLimit},
		{nearGroup(1000, 3), nearGroup(1000, 3), impl.ErrLimit},
		{nearGroup(1000, 15), nearGroup(1000, 15), impl.ErrLimit},
	} {
		product := productRing(test.one, test.other)
		want := impl.Ring{}
		if test.code == impl.ErrNone {
			want = productCube(test.one.ring, test.other.ring)
		}
		checkRing(t, product.what, product.ring, product.code, want, test.code)
	}
}

func TestProductsOfWhatIsNoRing(t *testing.T) {
	others := []impl.Ring{groupCube(1, sums(1)), fibonacci, nearCube(1, sums(1), 1000), groupCube(16, sums(16))}
	for _, rings := range []map[string]impl.Ring{noCubes(), noRings()} {
		for what, r := range rings {
			got, code := impl.ProductRing(r, r)
			checkRing(t, "ProductRing of twice "+what, got, code, impl.Ring{}, impl.ErrInvalid)
			for _, s := range append(others, noRings()["sixteen labels"], noCubes()["rank 17"], noCubes()["nothing"]) {
				got, code := impl.ProductRing(r, s)
				checkRing(t, "ProductRing with "+what+" first", got, code, impl.Ring{}, impl.ErrInvalid)
				got, code = impl.ProductRing(s, r)
				checkRing(t, "ProductRing with "+what+" second", got, code, impl.Ring{}, impl.ErrInvalid)
			}
		}
	}
}

// integralFactors has integral rings that are small enough for products.
func integralFactors() map[string]dimensioned {
	all := integralRings()
	for name, test := range all {
		if len(test.ring.Table) > 8 {
			delete(all, name)
		}
	}
	return all
}

func TestDimensionsOfProducts(t *testing.T) {
	all, count := integralFactors(), 0
	for name, r := range all {
		for other, s := range all {
			if len(r.ring.Table)*len(s.ring.Table) > 16 {
				continue
			}
			count++
			what := "the product " + name + " and " + other
			product, code := impl.ProductRing(r.ring, s.ring)
			if code != impl.ErrNone {
				t.Errorf("%s: %d", what, code)
				continue
			}
			want := productDimensioned(r, s).dimensions
			dimensions, code := impl.IntegerDimensions(product)
			checkList(t, "IntegerDimensions of "+what, dimensions, code, want, impl.ErrNone)
			first, _ := impl.WholeDimension(r.ring)
			second, _ := impl.WholeDimension(s.ring)
			whole, code := impl.WholeDimension(product)
			checkNumber(t, "WholeDimension of "+what, whole, code, first*second, impl.ErrNone)
		}
	}
	if count < 100 {
		t.Errorf("there are only %d products", count)
	}
}

func TestDimensionsOfAnyProducts(t *testing.T) {
	all, floats, kinds := factors(), map[string][]float64{}, map[bool]int{}
	for name, r := range all {
		floats[name] = floatDimensions(r)
	}
	for name, r := range all {
		for other, s := range all {
			product, code := impl.ProductRing(r, s)
			if code != impl.ErrNone || len(r.Table) > len(s.Table) {
				continue
			}
			got := floatDimensions(product)
			for i, d := range floats[name] {
				for j, e := range floats[other] {
					if at := i*len(s.Table) + j; math.Abs(got[at]-d*e) > 1e-6*d*e {
						t.Errorf("the product %s and %s has the dimension %v at %d, want %v", name, other, got[at], at, d*e)
					}
				}
			}
			integral := wantedDimensions(r) != nil && wantedDimensions(s) != nil
			is, code := impl.IsIntegralRing(product)
			checkBool(t, "IsIntegralRing of the product "+name+" and "+other, is, code, integral, impl.ErrNone)
			kinds[is]++
		}
	}
	if kinds[false] == 0 || kinds[true] == 0 {
		t.Errorf("the products are of the kinds %v", kinds)
	}
}

func TestGroupRingsArePointed(t *testing.T) {
	for _, orders := range ordersWithin(3, 16) {
		ring := groupRing(orders...)
		pointed, code := impl.IsPointedRing(ring.ring)
		checkBool(t, "IsPointedRing of "+ring.what, pointed, code, true, impl.ErrNone)
		whole, code := impl.WholeDimension(ring.ring)
		checkNumber(t, "WholeDimension of "+ring.what, whole, code, int64(len(ring.ring.Table)), impl.ErrNone)
	}
	for n := int64(1); n <= 8; n++ {
		ring := dihedralGroupRing(n)
		pointed, code := impl.IsPointedRing(ring.ring)
		checkBool(t, "IsPointedRing of "+ring.what, pointed, code, true, impl.ErrNone)
	}
}

func TestDimensionsOfTambaraYamagami(t *testing.T) {
	for _, orders := range ordersWithin(3, 15) {
		ring := tambaraYamagami(orders...)
		n := len(ring.ring.Table) - 1
		code := int64(impl.ErrNotFound)
		want := []int64(nil)
		for d := 1; d*d <= n; d++ {
			if d*d == n {
				want, code = append(repeated(1, n), int64(d)), impl.ErrNone
			}
		}
		got, gotCode := impl.IntegerDimensions(ring.ring)
		checkList(t, "IntegerDimensions of "+ring.what, got, gotCode, want, code)
		whole, gotCode := impl.WholeDimension(ring.ring)
		checkNumber(t, "WholeDimension of "+ring.what, whole, gotCode, truth(want != nil)*int64(2*n), code)
	}
}

func TestDimensionsOfSpins(t *testing.T) {
	sine := func(label, level int) float64 { return math.Sin(math.Pi * float64(label+1) / float64(level+2)) }
	check := func(what string, ring impl.Ring, step int, level int) {
		for label, d := range floatDimensions(ring) {
			if want := sine(label*step, level) / sine(0, level); math.Abs(d-want) > 1e-6 {
				t.Errorf("%s has the dimension %v at %d, want %v", what, d, label, want)
			}
		}
	}
	for k := range 16 {
		check("the spin ring", spinRing(int64(k)).ring, 1, k)
	}
	for k := range 32 {
		check("the even part", evenSpinRing(int64(k)).ring, 2, k)
	}
}

func TestFamiliesLeaveArgumentsAlone(t *testing.T) {
	for _, list := range append(someOrders(), append(noOrders, greatOrders...)...) {
		orders := append(slices.Clone(list), 77, 78)[:len(list)]
		for _, family := range orderFamilies() {
			family.ring(orders)
		}
		if !slices.Equal(orders[:len(list)+2], append(slices.Clone(list), 77, 78)) {
			t.Errorf("the orders %v became %v", list, orders[:len(list)+2])
		}
	}
	for name, ring := range factors() {
		r, s, one := roomyRing(ring), roomyRing(fibonacci), roomyRing(groupCube(1, sums(1)))
		wholeR, wholeS, wholeOne := wholeRing(r), wholeRing(s), wholeRing(one)
		for _, other := range []impl.Ring{r, s, one} {
			impl.ProductRing(r, other)
			impl.ProductRing(other, r)
		}
		if !reflect.DeepEqual(wholeRing(r), wholeR) || !reflect.DeepEqual(wholeRing(s), wholeS) || !reflect.DeepEqual(wholeRing(one), wholeOne) {
			t.Errorf("the ring %s became %v, the others %v and %v", name, r, s, one)
		}
	}
}

func TestFamiliesAreNew(t *testing.T) {
	one, r := groupCube(1, sums(1)), groupCube(6, twisted(3, 2, 2))
	oldR := copyRing(r)
	product := func(a, b impl.Ring) func() (impl.Ring, int64) {
		return func() (impl.Ring, int64) { return impl.ProductRing(a, b) }
	}
	for name, function := range map[string]func() (impl.Ring, int64){
		"GroupRing":         func() (impl.Ring, int64) { return impl.GroupRing([]int64{4, 4}) },
		"GroupRing of 1":    func() (impl.Ring, int64) { return impl.GroupRing([]int64{1}) },
		"DihedralGroupRing": func() (impl.Ring, int64) { return impl.DihedralGroupRing(8) },
		"TambaraYamagami":   func() (impl.Ring, int64) { return impl.TambaraYamagami([]int64{15}) },
		"NearGroup":         func() (impl.Ring, int64) { return impl.NearGroup([]int64{2, 2}, 3) },
		"SpinRing":          func() (impl.Ring, int64) { return impl.SpinRing(15) },
		"SpinRing of 0":     func() (impl.Ring, int64) { return impl.SpinRing(0) },
		"EvenSpinRing":      func() (impl.Ring, int64) { return impl.EvenSpinRing(31) },
		"ProductRing":       product(r, fibonacci),
		"ProductRing, back": product(fibonacci, r),
		"ProductRing twice": product(fibonacci, fibonacci),
		"ProductRing, one":  product(r, one),
		"one, ProductRing":  product(one, r),
		"ProductRing, ones": product(one, one),
	} {
		first, code := function()
		want := copyRing(first)
		overwrite(t, name, first)
		second, secondCode := function()
		checkRing(t, name, second, secondCode, want, code)
		if code != impl.ErrNone || len(want.Table) == 0 {
			t.Errorf("%s returns %d", name, code)
		}
	}
	if !reflect.DeepEqual(r, oldR) || one.Table[0][0][0] != 1 || textOf(fibonacci) != "1 0 0 1/0 1 1 1" {
		t.Errorf("a product shares memory with the rings %v, %v and %v", r, one, fibonacci)
	}
}

func TestFamiliesAtOnce(t *testing.T) {
	orders, r := []int64{2, 2, 2}, nearCube(2, sums(2), 1)
	results := make(chan impl.Ring)
	for range 8 {
		go func() {
			ring, _ := impl.NearGroup(orders, 5)
			product, _ := impl.ProductRing(r, r)
			results <- ring
			results <- product
		}()
	}
	for range 16 {
		got := <-results
		if len(got.Table) != 9 || !impl.IsRing(got) {
			t.Errorf("the ring is %v", got)
		}
	}
}
