package tests

import (
	"math"
	"math/big"
	"reflect"
	"slices"
	"testing"

	"loop.example/g01132/impl"
)

// partitionsOf has the lists of numbers of at least 1 and at most greatest, in descending order,
// with the sum n; {n} is the first one.
func partitionsOf(n int, greatest int) [][]int {
	if n == 0 {
		return [][]int{{}}
	}
	all := [][]int{}
	for first := min(n, greatest); first >= 1; first-- {
		for _, rest := range partitionsOf(n-first, first) {
			all = append(all, append([]int{first}, rest...))
		}
	}
	return all
}

// beadsOf has different numbers for the parts of a partition, and for parts 0 up to n parts.
func beadsOf(partition []int, n int) []int {
	beads := []int{}
	for i := range n {
		part := 0
		if i < len(partition) {
			part = partition[i]
		}
		beads = append(beads, part+n-1-i)
	}
	return beads
}

// symmetricCharacter is the value, on permutations with some cycles, of the character of a symmetric
// group that belongs to beads, by the rule of Murnaghan and Nakayama.
func symmetricCharacter(beads []int, cycles []int) int64 {
	if len(cycles) == 0 {
		return 1
	}
	sum := int64(0)
	for i, bead := range beads {
		to := bead - cycles[0]
		if to < 0 || slices.Contains(beads, to) {
			continue
		}
		moved, sign := slices.Clone(beads), int64(1)
		moved[i] = to
		for _, other := range beads {
			if to < other && other < bead {
				sign = -sign
			}
		}
		sum += sign * symmetricCharacter(moved, cycles[1:])
	}
	return sum
}

// factorial is the product of 1 to n.
func factorial(n int) int64 {
	product := int64(1)
	for i := range n {
		product *= int64(i + 1)
	}
	return product
}

// permutationsWith is how many permutations of n have some cycles.
func permutationsWith(n int, cycles []int) int64 {
	count := factorial(n)
	for length := 1; length <= n; length++ {
		times := 0
		for _, cycle := range cycles {
			times += int(truth(cycle == length))
		}
		for range times {
			count /= int64(length)
		}
		count /= factorial(times)
	}
	return count
}

// symmetricCube makes the ring of the characters of the symmetric group of n, and has their values
// at the identity, which are the dimensions.
func symmetricCube(n int) (impl.Ring, []int64) {
	partitions, values, dimensions := partitionsOf(n, n), table{}, []int64{}
	for _, partition := range partitions {
		row := []int64{}
		for _, cycles := range partitions {
			row = append(row, symmetricCharacter(beadsOf(partition, n), cycles))
		}
		values = append(values, row)
		dimensions = append(dimensions, row[len(row)-1])
	}
	ring := cubeOf(len(partitions), func(i, j, k int) int64 {
		sum := int64(0)
		for c, cycles := range partitions {
			sum += permutationsWith(n, cycles) * values[i][c] * values[j][c] * values[k][c]
		}
		return sum / factorial(n)
	})
	return ring, dimensions
}

// dimensioned is an integral ring with its dimensions.
type dimensioned struct {
	ring       impl.Ring
	dimensions []int64
}

// nearDimensioned is a near-group ring where the dimension of the last label, d, is an integer.
func nearDimensioned(n int, times func(a, b int) int, k int64, d int64) dimensioned {
	return dimensioned{nearCube(n, times, k), append(repeated(1, n), d)}
}

func productDimensioned(a dimensioned, b dimensioned) dimensioned {
	dimensions := []int64{}
	for _, x := range a.dimensions {
		dimensions = append(dimensions, multipleBy(x, b.dimensions)...)
	}
	return dimensioned{productCube(a.ring, b.ring), dimensions}
}

func symmetricDimensioned(n int) dimensioned {
	ring, dimensions := symmetricCube(n)
	return dimensioned{ring, dimensions}
}

func dihedralDimensioned(n int) dimensioned {
	return dimensioned{dihedralCube(n), dihedralDimensions(int64(n))}
}

// integralRings has rings with dimensions that are integers, and each of them with other numbers of
// its labels.
func integralRings() map[string]dimensioned {
	groups, s := twisted(3, 2, 2), &sequence{state: 5}
	two := nearDimensioned(2, sums(2), 1, 2)
	all := map[string]dimensioned{
		"of one label":              {groupCube(1, sums(1)), []int64{1}},
		"of the group 7":            {groupCube(7, sums(7)), repeated(1, 7)},
		"of the group 16":           {groupCube(16, sums(16)), repeated(1, 16)},
		"of quaternions":            {groupCube(8, quaternions), repeated(1, 8)},
		"near 2 with 1":             two,
		"near 3 with 2":             nearDimensioned(3, sums(3), 2, 3),
		"near 4 with 0":             nearDimensioned(4, sums(2, 2), 0, 2),
		"near 6 with 1":             nearDimensioned(6, sums(6), 1, 3),
		"near 9 with 0":             nearDimensioned(9, sums(3, 3), 0, 3),
		"near 15 with 2":            nearDimensioned(15, sums(15), 2, 5),
		"near 15 with 14":           nearDimensioned(15, sums(15), 14, 15),
		"near the group of S3":      nearDimensioned(6, groups, 1, 3),
		"near the group of S3, 5":   nearDimensioned(6, groups, 5, 6),
		"near quaternions with 2":   nearDimensioned(8, quaternions, 2, 4),
		"of characters of S2":       symmetricDimensioned(2),
		"of characters of S3":       symmetricDimensioned(3),
		"of characters of S4":       symmetricDimensioned(4),
		"of characters of S5":       symmetricDimensioned(5),
		"of characters of S6":       symmetricDimensioned(6),
		"of characters of S7":       symmetricDimensioned(7),
		"of characters of D7":       dihedralDimensioned(7),
		"of characters of D18":      dihedralDimensioned(18),
		"near 2 twice":              productDimensioned(two, two),
		"near 4 with 3, times S3":   productDimensioned(nearDimensioned(4, sums(4), 3, 4), symmetricDimensioned(3)),
		"near 3 with 2, twice":      productDimensioned(nearDimensioned(3, sums(3), 2, 3), nearDimensioned(3, sums(3), 2, 3)),
		"of S5 and the group 2":     productDimensioned(symmetricDimensioned(5), dimensioned{groupCube(2, sums(2)), repeated(1, 2)}),
		"near S3 with 1, and 2":     productDimensioned(nearDimensioned(6, groups, 1, 3), dimensioned{groupCube(2, sums(2)), repeated(1, 2)}),
		"of the group of S3, and 2": productDimensioned(dimensioned{groupCube(6, groups), repeated(1, 6)}, dimensioned{groupCube(2, sums(2)), repeated(1, 2)}),
	}
	names := []string{}
	for name := range all {
		names = append(names, name)
	}
	slices.Sort(names)
	for _, name := range names {
		ring, labels := s.shuffled(all[name].ring)
		dimensions := []int64{}
		for _, label := range labels {
			dimensions = append(dimensions, all[name].dimensions[label])
		}
		all[name+", shuffled"] = dimensioned{ring, dimensions}
	}
	return all
}

// measuredRings has the rings of chapter 3, the integral ones, and some whose numbers are great.
func measuredRings() map[string]impl.Ring {
	all := allRings()
	for name, test := range integralRings() {
		all["integral, "+name] = test.ring
	}
	all["near 2 with 997"] = nearCube(2, sums(2), 997)
	all["near 10 with 1"] = nearCube(10, sums(10), 1)
	all["great twice"] = productCube(nearCube(3, sums(3), 31), nearCube(3, sums(3), 32))
	return all
}

// timesWeights has at j the sum of the numbers of the row j of the matrix of a label, or of all
// labels together, times weights.
func timesWeights(r impl.Ring, labels []int, weights []int64) []int64 {
	result := make([]int64, len(weights))
	for _, i := range labels {
		for j := range weights {
			for k, weight := range weights {
				result[j] += r.Table[i][j][k] * weight
			}
		}
	}
	return result
}

// labelsOf has all labels of a ring.
func labelsOf(r impl.Ring) []int {
	labels := []int{}
	for i := range r.Table {
		labels = append(labels, i)
	}
	return labels
}

// wantedWeights has the weights of all steps up to 20, as far as none of them is too great.
func wantedWeights(r impl.Ring) [][]int64 {
	all, weights := [][]int64{}, repeated(1, len(r.Table))
	for len(all) <= 20 && slices.Max(weights) <= 1000000 {
		all = append(all, weights)
		weights = timesWeights(r, labelsOf(r), weights)
	}
	return all
}

// wantedBounds has the bounds of a label, compared as fractions of any size.
func wantedBounds(r impl.Ring, i int, weights []int64) impl.Bounds {
	low, high := 0, 0
	tops := timesWeights(r, []int{i}, weights)
	at := func(j int) *big.Rat { return big.NewRat(tops[j], weights[j]) }
	for j := range weights {
		if at(j).Cmp(at(low)) < 0 {
			low = j
		}
		if at(j).Cmp(at(high)) > 0 {
			high = j
		}
	}
	return impl.Bounds{LowTop: tops[low], LowBottom: weights[low], HighTop: tops[high], HighBottom: weights[high]}
}

func lowOf(b impl.Bounds) *big.Rat { return big.NewRat(b.LowTop, b.LowBottom) }

func highOf(b impl.Bounds) *big.Rat { return big.NewRat(b.HighTop, b.HighBottom) }

// floatDimensions has the dimensions, found by repeated products with all labels.
func floatDimensions(r impl.Ring) []float64 {
	d := make([]float64, len(r.Table))
	for i := range d {
		d[i] = 1
	}
	for range 200 {
		next := make([]float64, len(d))
		for _, rows := range r.Table {
			for j, row := range rows {
				for k, n := range row {
					next[j] += float64(n) * d[k]
				}
			}
		}
		for i := range d {
			d[i] = next[i] / next[0]
		}
	}
	return d
}

// multiplies tells whether the numbers of a list multiply as the labels, and all are at least 1.
func multiplies(r impl.Ring, d []int64) bool {
	for i := range d {
		for j := range d {
			sum := int64(0)
			for k := range d {
				sum += r.Table[i][j][k] * d[k]
			}
			if d[i] < 1 || sum != d[i]*d[j] {
				return false
			}
		}
	}
	return true
}

// wantedDimensions has the dimensions if they are integers, or nil.
func wantedDimensions(r impl.Ring) []int64 {
	rounded := []int64{}
	for _, d := range floatDimensions(r) {
		rounded = append(rounded, int64(math.Round(d)))
	}
	if !multiplies(r, rounded) {
		return nil
	}
	return rounded
}

func checkBool(t *testing.T, what string, got bool, code int64, want bool, wantCode int64) {
	t.Helper()
	if got != want || code != wantCode {
		t.Errorf("%s = %v, %d, want %v, %d", what, got, code, want, wantCode)
	}
}

func checkBounds(t *testing.T, what string, got impl.Bounds, code int64, want impl.Bounds, wantCode int64) {
	t.Helper()
	if got != want || code != wantCode {
		t.Errorf("%s = %v, %d, want %v, %d", what, got, code, want, wantCode)
	}
}

func TestIntegralRingsAreRings(t *testing.T) {
	for name, test := range integralRings() {
		if !impl.IsRing(test.ring) || !multiplies(test.ring, test.dimensions) {
			t.Errorf("%s is no ring with the dimensions %v", name, test.dimensions)
		}
	}
}

func TestWeightsOf(t *testing.T) {
	for name, r := range measuredRings() {
		wanted := wantedWeights(r)
		for step := range int64(21) {
			got, code := impl.WeightsOf(r, step)
			if int(step) < len(wanted) {
				checkList(t, call("WeightsOf "+name, step), got, code, wanted[step], impl.ErrNone)
			} else {
				checkList(t, call("WeightsOf "+name, step), got, code, nil, impl.ErrLimit)
			}
		}
	}
	for _, test := range []struct {
		ring impl.Ring
		step int64
		want []int64
	}{
		{fibonacci, 0, []int64{1, 1}},
		{fibonacci, 1, []int64{2, 3}},
		{fibonacci, 2, []int64{5, 8}},
		{fibonacci, 14, []int64{514229, 832040}},
		{groupCube(1, sums(1)), 0, []int64{1}},
		{groupCube(1, sums(1)), 20, []int64{1}},
		{groupCube(2, sums(2)), 19, []int64{524288, 524288}},
		{groupCube(16, sums(4, 4)), 4, repeated(65536, 16)},
		{nearCube(2, sums(2), 1), 1, []int64{3, 3, 5}},
		{nearCube(1, sums(1), 1000), 1, []int64{2, 1002}},
	} {
		got, code := impl.WeightsOf(test.ring, test.step)
		checkList(t, call("WeightsOf", test.step), got, code, test.want, impl.ErrNone)
	}
}

func TestWeightsAtTheLimit(t *testing.T) {
	ten, above := groupCube(10, sums(10)), nearCube(2, sums(2), 997)
	for _, test := range []struct {
		what string
		ring impl.Ring
		step int64
		want []int64
		code int64
	}{
		{"exactly 1000000", ten, 6, repeated(1000000, 10), impl.ErrNone},
		{"after exactly 1000000", ten, 7, nil, impl.ErrLimit},
		{"long after 1000000", ten, 20, nil, impl.ErrLimit},
		{"exactly 1000000, of the group 5 2", groupCube(10, sums(5, 2)), 6, repeated(1000000, 10), impl.ErrNone},
		{"before 1000005", above, 1, []int64{3, 3, 1001}, impl.ErrNone},
		{"1000005", above, 2, nil, impl.ErrLimit},
		{"after 1000005", above, 3, nil, impl.ErrLimit},
		{"1048576", groupCube(2, sums(2)), 20, nil, impl.ErrLimit},
		{"65536 times 16", groupCube(16, sums(16)), 5, nil, impl.ErrLimit},
		{"about a million", nearCube(1, sums(1), 1000), 2, nil, impl.ErrLimit},
		{"a great step", nearCube(15, sums(15), 1000), 20, nil, impl.ErrLimit},
		{"1346269", fibonacci, 15, nil, impl.ErrLimit},
	} {
		got, code := impl.WeightsOf(test.ring, test.step)
		checkList(t, "WeightsOf with "+test.what, got, code, test.want, test.code)
		want := impl.Bounds{}
		if test.code == impl.ErrNone {
			want = wantedBounds(test.ring, 1, test.want)
		}
		bounds, code := impl.BoundsOf(test.ring, 1, test.step)
		checkBounds(t, "BoundsOf with "+test.what, bounds, code, want, test.code)
	}
}

// noSteps has numbers that are no steps.
var noSteps = []int64{-1, 21, math.MinInt64, math.MaxInt64}

func TestStepsThatDoNotExist(t *testing.T) {
	for _, r := range []impl.Ring{groupCube(1, sums(1)), fibonacci, groupCube(16, sums(16))} {
		for _, step := range noSteps {
			weights, code := impl.WeightsOf(r, step)
			checkList(t, call("WeightsOf", step), weights, code, nil, impl.ErrRange)
			bounds, code := impl.BoundsOf(r, 0, step)
			checkBounds(t, call("BoundsOf", 0, step), bounds, code, impl.Bounds{}, impl.ErrRange)
		}
		for _, step := range []int64{0, 20} {
			want := int64(impl.ErrNone)
			if step == 20 && len(r.Table) > 1 {
				want = impl.ErrLimit
			}
			if _, code := impl.WeightsOf(r, step); code != want {
				t.Errorf("%s returns %d", call("WeightsOf", step), code)
			}
			if _, code := impl.BoundsOf(r, 0, step); code != want {
				t.Errorf("%s returns %d", call("BoundsOf", 0, step), code)
			}
		}
	}
}

func TestBoundsOf(t *testing.T) {
	for name, r := range measuredRings() {
		wanted := wantedWeights(r)
		for step := range min(len(wanted)+1, 21) {
			for i := range r.Table {
				got, code := impl.BoundsOf(r, int64(i), int64(step))
				what := call("BoundsOf "+name, int64(i), int64(step))
				if step < len(wanted) {
					checkBounds(t, what, got, code, wantedBounds(r, i, wanted[step]), impl.ErrNone)
				} else {
					checkBounds(t, what, got, code, impl.Bounds{}, impl.ErrLimit)
				}
			}
		}
	}
}

func TestChosenBounds(t *testing.T) {
	near := nearCube(2, sums(2), 1)
	twice := productCube(fibonacci, fibonacci)
	for _, test := range []struct {
		what string
		ring impl.Ring
		i, t int64
		want impl.Bounds
	}{
		{"Fibonacci", fibonacci, 1, 0, impl.Bounds{LowTop: 1, LowBottom: 1, HighTop: 2, HighBottom: 1}},
		{"Fibonacci", fibonacci, 1, 1, impl.Bounds{LowTop: 3, LowBottom: 2, HighTop: 5, HighBottom: 3}},
		{"Fibonacci", fibonacci, 1, 2, impl.Bounds{LowTop: 8, LowBottom: 5, HighTop: 13, HighBottom: 8}},
		{"Fibonacci", fibonacci, 0, 1, impl.Bounds{LowTop: 2, LowBottom: 2, HighTop: 2, HighBottom: 2}},
		{"one label", groupCube(1, sums(1)), 0, 20, impl.Bounds{LowTop: 1, LowBottom: 1, HighTop: 1, HighBottom: 1}},
		// None is cancelled.
		{"the group 2", groupCube(2, sums(2)), 1, 3, impl.Bounds{LowTop: 8, LowBottom: 8, HighTop: 8, HighBottom: 8}},
		{"the group 16", groupCube(16, sums(16)), 15, 4, impl.Bounds{LowTop: 65536, LowBottom: 65536, HighTop: 65536, HighBottom: 65536}},
		// 3 / 3, 3 / 3 and 5 / 5 are equal, and that for 0 is taken.
		{"near 2", near, 1, 1, impl.Bounds{LowTop: 3, LowBottom: 3, HighTop: 3, HighBottom: 3}},
		{"near 2", near, 2, 1, impl.Bounds{LowTop: 5, LowBottom: 3, HighTop: 11, HighBottom: 5}},
		// The tops are 6, 9, 10 and 15, the bottoms 4, 6, 6 and 9: 6 / 4 is 9 / 6, and 10 / 6 is 15 / 9.
		{"Fibonacci twice", twice, 2, 1, impl.Bounds{LowTop: 6, LowBottom: 4, HighTop: 10, HighBottom: 6}},
		// With the labels in another order 15 / 9 stands before 10 / 6, and 9 / 6 behind 6 / 4.
		{"Fibonacci twice, 3 before 2", takeLabels(twice, []int{0, 3, 2, 1}), 2, 1, impl.Bounds{LowTop: 6, LowBottom: 4, HighTop: 15, HighBottom: 9}},
		{"great numbers", nearCube(15, sums(15), 1000), 15, 1, impl.Bounds{LowTop: 1030, LowBottom: 16, HighTop: 1030240, HighBottom: 1030}},
	} {
		got, code := impl.BoundsOf(test.ring, test.i, test.t)
		checkBounds(t, call("BoundsOf "+test.what, test.i, test.t), got, code, test.want, impl.ErrNone)
	}
}

func TestLabelsThatDoNotExist(t *testing.T) {
	for _, r := range []impl.Ring{groupCube(1, sums(1)), fibonacci, groupCube(16, sums(16))} {
		n := int64(len(r.Table))
		for _, i := range []int64{-1, n, n + 1, math.MinInt64, math.MaxInt64} {
			// The label is wrong before the weights are too great.
			for _, step := range []int64{0, 1, 20, 21} {
				bounds, code := impl.BoundsOf(r, i, step)
				checkBounds(t, call("BoundsOf", i, step), bounds, code, impl.Bounds{}, impl.ErrRange)
			}
			step, code := impl.StepFor(r, i, 0, 1)
			checkNumber(t, call("StepFor", i, 0, 1), step, code, 0, impl.ErrRange)
		}
		for _, i := range []int64{0, n - 1} {
			if _, code := impl.BoundsOf(r, i, 0); code != impl.ErrNone {
				t.Errorf("%s returns %d", call("BoundsOf", i, 0), code)
			}
			if _, code := impl.StepFor(r, i, 1000, 1); code != impl.ErrNone {
				t.Errorf("%s returns %d", call("StepFor", i, 1000, 1), code)
			}
		}
	}
}

func TestDimensionsAreWithinBounds(t *testing.T) {
	for name, r := range measuredRings() {
		dimensions, whole := floatDimensions(r), wantedDimensions(r)
		for step := range wantedWeights(r) {
			for i, d := range dimensions {
				b, code := impl.BoundsOf(r, int64(i), int64(step))
				low, _ := lowOf(b).Float64()
				high, _ := highOf(b).Float64()
				if code != impl.ErrNone || low > d*(1+1e-12) || high < d*(1-1e-12) {
					t.Errorf("%s: %f is not within %v, %d", call("BoundsOf "+name, int64(i), int64(step)), d, b, code)
				}
				if whole != nil && (b.LowTop > whole[i]*b.LowBottom || b.HighTop < whole[i]*b.HighBottom) {
					t.Errorf("%s: %d is not within %v", call("BoundsOf "+name, int64(i), int64(step)), whole[i], b)
				}
			}
		}
	}
}

func TestBoundsGetNoWider(t *testing.T) {
	for name, r := range measuredRings() {
		if is, _ := impl.IsCommutativeRing(r); !is {
			continue
		}
		for i := range r.Table {
			old, _ := impl.BoundsOf(r, int64(i), 0)
			for step := 1; step < len(wantedWeights(r)); step++ {
				b, code := impl.BoundsOf(r, int64(i), int64(step))
				if code != impl.ErrNone || lowOf(b).Cmp(lowOf(old)) < 0 || highOf(b).Cmp(highOf(old)) > 0 {
					t.Errorf("%s = %v, %d, after %v", call("BoundsOf "+name, int64(i), int64(step)), b, code, old)
				}
				old = b
			}
		}
	}
}

// wantedStep tries the steps in order.
func wantedStep(r impl.Ring, i int, top int64, bottom int64) (int64, int64) {
	for step, weights := range wantedWeights(r) {
		b := wantedBounds(r, i, weights)
		if new(big.Rat).Sub(highOf(b), lowOf(b)).Cmp(big.NewRat(top, bottom)) <= 0 {
			return int64(step), impl.ErrNone
		}
	}
	return 0, impl.ErrLimit
}

func TestStepFor(t *testing.T) {
	widths := [][2]int64{{0, 1}, {0, 1000}, {1, 1000}, {1, 100}, {1, 6}, {999, 1000}, {1, 1}, {5, 2}, {1000, 1000}, {1000, 1}}
	for name, r := range measuredRings() {
		for _, i := range slices.Compact([]int{0, len(r.Table) / 2, len(r.Table) - 1}) {
			for _, width := range widths {
				want, wantCode := wantedStep(r, i, width[0], width[1])
				got, code := impl.StepFor(r, int64(i), width[0], width[1])
				checkNumber(t, call("StepFor "+name, int64(i), width[0], width[1]), got, code, want, wantCode)
			}
		}
	}
}

func TestStepsThatAreExactlyFine(t *testing.T) {
	// The widths of label 1 of Fibonacci are 1, 1 / 6 and 1 / 40, and never 0; a weight is too great
	// from step 15 on.
	for _, test := range []struct {
		top, bottom int64
		want, code  int64
	}{
		{1000, 1, 0, impl.ErrNone},
		{1, 1, 0, impl.ErrNone},
		{1000, 1000, 0, impl.ErrNone},
		{999, 1000, 1, impl.ErrNone},
		{1, 5, 1, impl.ErrNone},
		{1, 6, 1, impl.ErrNone},
		{166, 996, 1, impl.ErrNone},
		{167, 1000, 1, impl.ErrNone},
		{166, 1000, 2, impl.ErrNone},
		{1, 7, 2, impl.ErrNone},
		{25, 1000, 2, impl.ErrNone},
		{1, 40, 2, impl.ErrNone},
		{24, 1000, 3, impl.ErrNone},
		{1, 1000, 4, impl.ErrNone},
		{0, 1, 0, impl.ErrLimit},
		{0, 1000, 0, impl.ErrLimit},
	} {
		got, code := impl.StepFor(fibonacci, 1, test.top, test.bottom)
		checkNumber(t, call("StepFor", 1, test.top, test.bottom), got, code, test.want, test.code)
	}
	// A step that fits comes before a weight that is too great, even though that is the next one.
	great := nearCube(15, sums(15), 1000)
	for _, test := range []struct {
		what           string
		ring           impl.Ring
		i, top, bottom int64
		want, code     int64
	}{
		{"one label", groupCube(1, sums(1)), 0, 0, 1000, 0, impl.ErrNone},
		{"the group 16", groupCube(16, sums(16)), 15, 0, 1, 0, impl.ErrNone},
		{"an invertible label", great, 14, 0, 1, 0, impl.ErrNone},
		{"1015 less 1 at step 0, 1030240 / 1030 less 1030 / 16 at step 1", great, 15, 936, 1, 1, impl.ErrNone},
		{"and nothing before the limit", great, 15, 935, 1, 0, impl.ErrLimit},
		{"and a width of 0", great, 15, 0, 1, 0, impl.ErrLimit},
	} {
		got, code := impl.StepFor(test.ring, test.i, test.top, test.bottom)
		checkNumber(t, call("StepFor "+test.what, test.i, test.top, test.bottom), got, code, test.want, test.code)
	}
}

func TestStepForErrors(t *testing.T) {
	for _, r := range []impl.Ring{groupCube(1, sums(1)), fibonacci, groupCube(16, sums(16))} {
		for _, top := range []int64{-1, 1001, math.MinInt64, math.MaxInt64} {
			got, code := impl.StepFor(r, 0, top, 1)
			checkNumber(t, call("StepFor", 0, top, 1), got, code, 0, impl.ErrRange)
		}
		for _, bottom := range []int64{-1, 0, 1001, math.MinInt64, math.MaxInt64} {
			got, code := impl.StepFor(r, 0, 1, bottom)
			checkNumber(t, call("StepFor", 0, 1, bottom), got, code, 0, impl.ErrRange)
		}
		for _, top := range []int64{0, 1, 1000} {
			for _, bottom := range []int64{1, 2, 1000} {
				got, code := impl.StepFor(r, 0, top, bottom)
				checkNumber(t, call("StepFor", 0, top, bottom), got, code, 0, impl.ErrNone)
			}
		}
	}
	// The range is checked before the limit.
	got, code := impl.StepFor(fibonacci, 1, 0, 1001)
	checkNumber(t, "StepFor with a bottom of 1001", got, code, 0, impl.ErrRange)
}

func TestNoStepIsLeftBeforeTheLimit(t *testing.T) {
	// Weights of a label that is not invertible are too great before step 20, so that ErrNotFound
	// has no ring; those with small weights at step 20 have only one label.
	for name, r := range measuredRings() {
		_, code := impl.WeightsOf(r, 20)
		if (code == impl.ErrNone) != (len(r.Table) == 1) {
			t.Errorf("%s returns %d", call("WeightsOf "+name, 20), code)
		}
		for i := range r.Table {
			if _, code := impl.StepFor(r, int64(i), 0, 1); code == impl.ErrNotFound {
				t.Errorf("%s returns ErrNotFound", call("StepFor "+name, int64(i), 0, 1))
			}
		}
	}
}

// invertibleIn has the labels whose product with their dual is the label 0.
func invertibleIn(r impl.Ring) []int64 {
	labels := []int64{}
	for i := range r.Table {
		product := r.Table[i][partnersOf(r, i)[0]]
		if slices.Equal(product, standsFor(r, 0)) {
			labels = append(labels, int64(i))
		}
	}
	return labels
}

func TestInvertibleLabels(t *testing.T) {
	kinds := [3]int{}
	for name, r := range measuredRings() {
		want := invertibleIn(r)
		got, code := impl.InvertibleLabels(r)
		checkList(t, "InvertibleLabels "+name, got, code, want, impl.ErrNone)
		pointed, code := impl.IsPointedRing(r)
		checkBool(t, "IsPointedRing "+name, pointed, code, len(want) == len(r.Table), impl.ErrNone)
		switch len(want) {
		case len(r.Table):
			kinds[0]++
		case 1:
			kinds[1]++
		default:
			kinds[2]++
		}
		// It is pointed exactly if all bounds at step 0 are 1.
		ones := 0
		for i := range r.Table {
			b, _ := impl.BoundsOf(r, int64(i), 0)
			if b == (impl.Bounds{LowTop: 1, LowBottom: 1, HighTop: 1, HighBottom: 1}) {
				ones++
			}
		}
		if pointed != (ones == len(r.Table)) || ones != len(want) {
			t.Errorf("%s: %d labels have bounds 1", name, ones)
		}
	}
	if kinds[0] == 0 || kinds[1] == 0 || kinds[2] == 0 {
		t.Errorf("the rings with all, one and some invertible labels are %v", kinds)
	}
	for _, test := range []struct {
		what string
		ring impl.Ring
		want []int64
	}{
		{"of one label", groupCube(1, sums(1)), []int64{0}},
		{"of Fibonacci", fibonacci, []int64{0}},
		{"of Ising", nearCube(2, sums(2), 0), []int64{0, 1}},
		{"of the group of S3", groupCube(6, twisted(3, 2, 2)), []int64{0, 1, 2, 3, 4, 5}},
		{"of spins 15", spinCube(15), []int64{0, 15}},
		{"of Haagerup", turningCube(3, sums(3), 1), []int64{0, 1, 2}},
		{"of Ising, shuffled", takeLabels(nearCube(2, sums(2), 0), []int{0, 2, 1}), []int64{0, 2}},
	} {
		got, code := impl.InvertibleLabels(test.ring)
		checkList(t, "InvertibleLabels "+test.what, got, code, test.want, impl.ErrNone)
	}
}

func TestIsDimension(t *testing.T) {
	for name, test := range integralRings() {
		is, code := impl.IsDimension(test.ring, test.dimensions)
		checkBool(t, "IsDimension "+name, is, code, true, impl.ErrNone)
		// No other vector has them: neither with one other number, nor a multiple.
		others := [][]int64{repeated(0, len(test.dimensions)), multipleBy(2, test.dimensions), repeated(1000000, len(test.dimensions))}
		for i := range test.dimensions {
			for _, a := range []int64{0, 1, test.dimensions[i] + 1, test.dimensions[i] - 1, 1000000} {
				other := slices.Clone(test.dimensions)
				other[i] = a
				others = append(others, other)
			}
		}
		for _, other := range others {
			is, code := impl.IsDimension(test.ring, other)
			checkBool(t, call("IsDimension "+name, other...), is, code, slices.Equal(other, test.dimensions), impl.ErrNone)
		}
	}
}

func TestIsDimensionOfSmallVectors(t *testing.T) {
	for name, r := range measuredRings() {
		if len(r.Table) > 4 {
			continue
		}
		want := wantedDimensions(r)
		total := 1
		for range r.Table {
			total *= 5
		}
		for number := range total {
			d, rest := []int64{}, number
			for range r.Table {
				d, rest = append(d, int64(rest%5)), rest/5
			}
			is, code := impl.IsDimension(r, d)
			checkBool(t, call("IsDimension "+name, d...), is, code, slices.Equal(d, want), impl.ErrNone)
		}
	}
}

func TestVectorsThatMultiplyInSomePlacesOnly(t *testing.T) {
	// The ring of S3 and 2 has a subring of three labels; its dimensions and wrong ones behind.
	s3 := nearCube(2, sums(2), 1)
	product := productCube(groupCube(2, sums(2)), s3)
	for _, test := range []struct {
		what string
		ring impl.Ring
		d    []int64
		want bool
	}{
		{"all", product, []int64{1, 1, 2, 1, 1, 2}, true},
		{"all but the last", product, []int64{1, 1, 2, 1, 1, 1}, false},
		{"a subring", product, []int64{1, 1, 2, 2, 2, 4}, false},
		{"a subring and 0", product, []int64{1, 1, 2, 0, 0, 0}, false},
		{"the first place", fibonacci, []int64{1, 1}, false},
		{"all places with 0 alone", fibonacci, []int64{1, 2}, false},
		{"rounded up", fibonacci, []int64{1, 1000000}, false},
		{"all places, with zeros", fibonacci, []int64{0, 0}, false},
		{"the unit not 1", groupCube(2, sums(2)), []int64{2, 2}, false},
		{"one label", groupCube(1, sums(1)), []int64{1}, true},
		{"one label with 0", groupCube(1, sums(1)), []int64{0}, false},
		{"one label with 1000000", groupCube(1, sums(1)), []int64{1000000}, false},
		{"16 labels", groupCube(16, sums(16)), repeated(1, 16), true},
		{"16 labels, the last one wrong", nearCube(15, sums(15), 14), append(repeated(1, 15), 14), false},
		{"16 labels, the last one right", nearCube(15, sums(15), 14), append(repeated(1, 15), 15), true},
	} {
		is, code := impl.IsDimension(test.ring, test.d)
		checkBool(t, "IsDimension of "+test.what, is, code, test.want, impl.ErrNone)
	}
}

func TestVectorsThatAreNone(t *testing.T) {
	integral := integralRings()
	for _, r := range []impl.Ring{groupCube(1, sums(1)), fibonacci, integral["of characters of S3"].ring, integral["of the group 16"].ring} {
		n := len(r.Table)
		vectors := [][]int64{nil, {}, repeated(1, n-1), repeated(1, n+1)}
		for i := range n {
			for _, a := range []int64{-1, 1000001, math.MinInt64, math.MaxInt64} {
				v := repeated(1, n)
				v[i] = a
				vectors = append(vectors, v)
			}
		}
		for _, v := range vectors {
			is, code := impl.IsDimension(r, v)
			checkBool(t, call("IsDimension", v...), is, code, false, impl.ErrRange)
			// The range is checked before it matters that the ring is not integral.
			dimension, code := impl.DimensionOfVector(r, v)
			checkNumber(t, call("DimensionOfVector", v...), dimension, code, 0, impl.ErrRange)
		}
	}
}

func TestIntegerDimensions(t *testing.T) {
	for name, test := range integralRings() {
		got, code := impl.IntegerDimensions(test.ring)
		checkList(t, "IntegerDimensions "+name, got, code, test.dimensions, impl.ErrNone)
		is, code := impl.IsIntegralRing(test.ring)
		checkBool(t, "IsIntegralRing "+name, is, code, true, impl.ErrNone)
		want := int64(0)
		for _, d := range test.dimensions {
			want += d * d
		}
		whole, code := impl.WholeDimension(test.ring)
		checkNumber(t, "WholeDimension "+name, whole, code, want, impl.ErrNone)
	}
	for n, want := range []int64{2: 2, 3: 6, 4: 24, 5: 120, 6: 720, 7: 5040} {
		if n < 2 {
			continue
		}
		whole, code := impl.WholeDimension(symmetricDimensioned(n).ring)
		checkNumber(t, call("WholeDimension of characters of the symmetric group", int64(n)), whole, code, want, impl.ErrNone)
	}
}

func TestIntegralAndOtherRings(t *testing.T) {
	counts := [2]int{}
	for name, r := range measuredRings() {
		want := wantedDimensions(r)
		code, ones := int64(impl.ErrNone), repeated(1, len(r.Table))
		if want == nil {
			code = impl.ErrNotFound
		}
		counts[truth(want == nil)]++
		got, a := impl.IntegerDimensions(r)
		checkList(t, "IntegerDimensions "+name, got, a, want, code)
		is, b := impl.IsIntegralRing(r)
		checkBool(t, "IsIntegralRing "+name, is, b, want != nil, impl.ErrNone)
		sum, squares := int64(0), int64(0)
		for _, d := range want {
			sum, squares = sum+d, squares+d*d
		}
		whole, c := impl.WholeDimension(r)
		checkNumber(t, "WholeDimension "+name, whole, c, squares, code)
		dimension, d := impl.DimensionOfVector(r, ones)
		checkNumber(t, "DimensionOfVector "+name, dimension, d, sum, code)
	}
	if counts[0] == 0 || counts[1] == 0 {
		t.Errorf("the rings that are integral, and those that are not, are %v", counts)
	}
}

func TestNearGroupRingsThatAreIntegral(t *testing.T) {
	// The last dimension d has d (d - k) = n.
	for n := 1; n <= 15; n++ {
		for k := int64(0); k <= 20; k++ {
			wanted := []int64(nil)
			for d := k + 1; d <= k+int64(n); d++ {
				if d*(d-k) == int64(n) {
					wanted = append(repeated(1, n), d)
				}
			}
			code := int64(impl.ErrNone)
			if wanted == nil {
				code = impl.ErrNotFound
			}
			got, gotCode := impl.IntegerDimensions(nearCube(n, sums(n), k))
			checkList(t, call("IntegerDimensions of a near-group ring", int64(n), k), got, gotCode, wanted, code)
		}
	}
	// Dimensions that are close to integers, but none.
	for _, k := range []int64{100, 999, 1000} {
		for _, n := range []int{1, 2, 7, 15} {
			got, code := impl.IntegerDimensions(nearCube(n, sums(n), k))
			checkList(t, call("IntegerDimensions of a near-group ring", int64(n), k), got, code, nil, impl.ErrNotFound)
		}
	}
}

func TestDimensionOfVector(t *testing.T) {
	s := &sequence{state: 17}
	for name, test := range integralRings() {
		n := len(test.ring.Table)
		vectors := [][]int64{repeated(0, n), repeated(1, n), repeated(1000000, n), s.vector(test.ring, 1000001)}
		for i := range n {
			vectors = append(vectors, standsFor(test.ring, i))
		}
		for _, v := range vectors {
			want := int64(0)
			for i, a := range v {
				want += a * test.dimensions[i]
			}
			got, code := impl.DimensionOfVector(test.ring, v)
			checkNumber(t, call("DimensionOfVector "+name, v...), got, code, want, impl.ErrNone)
		}
	}
	got, code := impl.DimensionOfVector(nearCube(2, sums(2), 1), []int64{1, 0, 3})
	checkNumber(t, "DimensionOfVector", got, code, 7, impl.ErrNone)
	got, code = impl.DimensionOfVector(fibonacci, []int64{1, 0})
	checkNumber(t, "DimensionOfVector of a ring that is not integral", got, code, 0, impl.ErrNotFound)
	got, code = impl.DimensionOfVector(fibonacci, []int64{0, 0})
	checkNumber(t, "DimensionOfVector of zeros in a ring that is not integral", got, code, 0, impl.ErrNotFound)
}

func TestDimensionsMultiplyAsLabels(t *testing.T) {
	s := &sequence{state: 19}
	dimension := func(r impl.Ring, v []int64) int64 {
		d, code := impl.DimensionOfVector(r, v)
		if code != impl.ErrNone {
			t.Errorf("DimensionOfVector returns %d", code)
		}
		return d
	}
	for name, test := range integralRings() {
		r := test.ring
		pairs := [][2][]int64{}
		for i := range min(len(r.Table), 8) {
			for j := range min(len(r.Table), 8) {
				pairs = append(pairs, [2][]int64{standsFor(r, i), standsFor(r, j)})
			}
		}
		for range 8 {
			pairs = append(pairs, [2][]int64{s.vector(r, 10), s.vector(r, 10)})
		}
		for _, pair := range pairs {
			product, code := impl.MultiplyVectors(r, pair[0], pair[1])
			if code != impl.ErrNone || dimension(r, product) != dimension(r, pair[0])*dimension(r, pair[1]) {
				t.Errorf("%s: the dimension of the product of %v and %v is %d", name, pair[0], pair[1], dimension(r, product))
			}
		}
	}
}

// dimensionFunctions has the functions of chapter 4 with arguments that fit a ring, or do not fit.
// Each one also tells whether the result beside the code is the zero value.
func dimensionFunctions() map[string]func(impl.Ring) (bool, int64) {
	lists := func(list []int64, code int64) (bool, int64) { return len(list) == 0, code }
	numbers := func(a int64, code int64) (bool, int64) { return a == 0, code }
	bools := func(is bool, code int64) (bool, int64) { return !is, code }
	bounds := func(b impl.Bounds, code int64) (bool, int64) { return b == impl.Bounds{}, code }
	ones := func(r impl.Ring) []int64 { return repeated(1, len(r.Table)) }
	return map[string]func(impl.Ring) (bool, int64){
		"WeightsOf":                    func(r impl.Ring) (bool, int64) { return lists(impl.WeightsOf(r, 0)) },
		"WeightsOf, no step":           func(r impl.Ring) (bool, int64) { return lists(impl.WeightsOf(r, -1)) },
		"WeightsOf, great":             func(r impl.Ring) (bool, int64) { return lists(impl.WeightsOf(r, 20)) },
		"BoundsOf":                     func(r impl.Ring) (bool, int64) { return bounds(impl.BoundsOf(r, 0, 0)) },
		"BoundsOf, no label":           func(r impl.Ring) (bool, int64) { return bounds(impl.BoundsOf(r, 16, 0)) },
		"BoundsOf, no step":            func(r impl.Ring) (bool, int64) { return bounds(impl.BoundsOf(r, 0, 21)) },
		"StepFor":                      func(r impl.Ring) (bool, int64) { return numbers(impl.StepFor(r, 0, 1000, 1)) },
		"StepFor, no label":            func(r impl.Ring) (bool, int64) { return numbers(impl.StepFor(r, -1, 1, 1)) },
		"StepFor, no width":            func(r impl.Ring) (bool, int64) { return numbers(impl.StepFor(r, 0, -1, 0)) },
		"InvertibleLabels":             func(r impl.Ring) (bool, int64) { return lists(impl.InvertibleLabels(r)) },
		"IsPointedRing":                func(r impl.Ring) (bool, int64) { return bools(impl.IsPointedRing(r)) },
		"IsDimension":                  func(r impl.Ring) (bool, int64) { return bools(impl.IsDimension(r, ones(r))) },
		"IsDimension, no vector":       func(r impl.Ring) (bool, int64) { return bools(impl.IsDimension(r, []int64{-1})) },
		"IntegerDimensions":            func(r impl.Ring) (bool, int64) { return lists(impl.IntegerDimensions(r)) },
		"IsIntegralRing":               func(r impl.Ring) (bool, int64) { return bools(impl.IsIntegralRing(r)) },
		"WholeDimension":               func(r impl.Ring) (bool, int64) { return numbers(impl.WholeDimension(r)) },
		"DimensionOfVector":            func(r impl.Ring) (bool, int64) { return numbers(impl.DimensionOfVector(r, ones(r))) },
		"DimensionOfVector, no vector": func(r impl.Ring) (bool, int64) { return numbers(impl.DimensionOfVector(r, nil)) },
	}
}

func TestDimensionsOfWhatIsNoRing(t *testing.T) {
	for _, rings := range []map[string]impl.Ring{noCubes(), noRings()} {
		for what, r := range rings {
			for name, function := range dimensionFunctions() {
				if zero, code := function(r); !zero || code != impl.ErrInvalid {
					t.Errorf("%s with %s returns %d, zero %v", name, what, code, zero)
				}
			}
		}
	}
}

func TestDimensionsLeaveArgumentsAlone(t *testing.T) {
	for name, test := range integralRings() {
		r := roomyRing(test.ring)
		whole := wholeRing(r)
		d := append(slices.Clone(test.dimensions), 3, 4)[:len(test.dimensions)]
		for _, function := range dimensionFunctions() {
			function(r)
		}
		impl.IsDimension(r, d)
		impl.DimensionOfVector(r, d)
		if !reflect.DeepEqual(wholeRing(r), whole) {
			t.Errorf("the ring %s became %v", name, r)
		}
		if !slices.Equal(d[:len(d)+2], append(slices.Clone(test.dimensions), 3, 4)) {
			t.Errorf("the vector of %s became %v", name, d[:len(d)+2])
		}
	}
}

func TestDimensionResultsAreNew(t *testing.T) {
	r := nearCube(2, sums(2), 1)
	old := copyRing(r)
	for name, function := range map[string]func() ([]int64, int64){
		"WeightsOf, step 0": func() ([]int64, int64) { return impl.WeightsOf(r, 0) },
		"WeightsOf, step 3": func() ([]int64, int64) { return impl.WeightsOf(r, 3) },
		"InvertibleLabels":  func() ([]int64, int64) { return impl.InvertibleLabels(r) },
		"IntegerDimensions": func() ([]int64, int64) { return impl.IntegerDimensions(r) },
	} {
		first, _ := function()
		want := slices.Clone(first)
		for i := range first {
			first[i] = -7
		}
		second, code := function()
		checkList(t, name, second, code, want, impl.ErrNone)
	}
	if !reflect.DeepEqual(r, old) {
		t.Errorf("the ring became %v", r)
	}
}
