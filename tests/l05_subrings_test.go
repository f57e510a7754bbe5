package tests

import (
	"math"
	"math/bits"
	"reflect"
	"slices"
	"testing"

	"loop.example/g01132/impl"
)

// setOf is the set of some labels.
func setOf(labels ...int) int64 {
	set := int64(0)
	for _, label := range labels {
		set |= 1 << label
	}
	return set
}

// membersOf has the labels of a set in ascending order.
func membersOf(set int64) []int {
	labels := []int{}
	for label := range 63 {
		if set&(1<<label) != 0 {
			labels = append(labels, label)
		}
	}
	return labels
}

// allOf is the set of all labels.
func allOf(r impl.Ring) int64 { return setOf(labelsOf(r)...) }

// outline has what matters for subrings: the duals, and for any two labels the set of those that
// occur in their product.
type outline struct {
	ring  impl.Ring
	duals []int
	masks [][]int64
}

func outlineOf(r impl.Ring) outline {
	o := outline{ring: r}
	for i, rows := range r.Table {
		o.duals = append(o.duals, partnersOf(r, i)[0])
		masks := []int64{}
		for _, row := range rows {
			mask := int64(0)
			for k, a := range row {
				mask += truth(a > 0) << k
			}
			masks = append(masks, mask)
		}
		o.masks = append(o.masks, masks)
	}
	return o
}

func (o outline) isClosedUnderDuals(set int64) bool {
	for _, i := range membersOf(set) {
		if set>>o.duals[i]&1 == 0 {
			return false
		}
	}
	return true
}

func (o outline) isClosedUnderProducts(set int64) bool {
	members := membersOf(set)
	for _, i := range members {
		for _, j := range members {
			if o.masks[i][j]|set != set {
				return false
			}
		}
	}
	return true
}

func (o outline) isSubring(set int64) bool {
	return set%2 == 1 && o.isClosedUnderDuals(set) && o.isClosedUnderProducts(set)
}

// subrings tries all sets of labels.
func (o outline) subrings() []int64 {
	all := []int64{}
	for set := range int64(1) << len(o.masks) {
		if o.isSubring(set) {
			all = append(all, set)
		}
	}
	return all
}

// leastWith is what all of some subrings that have all labels of a set have in common.
func leastWith(subrings []int64, set int64) int64 {
	common := int64(-1)
	for _, subring := range subrings {
		if subring&set == set {
			common &= subring
		}
	}
	return common
}

// adjointIn is the adjoint subring of the ring of a subring: of those of some subrings that are in
// it, the least one that has all products of its labels and their duals.
func (o outline) adjointIn(subrings []int64, subring int64) int64 {
	products, inside := int64(0), []int64{}
	for _, i := range membersOf(subring) {
		products |= o.masks[i][o.duals[i]]
	}
	for _, set := range subrings {
		if set|subring == subring {
			inside = append(inside, set)
		}
	}
	return leastWith(inside, products)
}

// series has the sets of the series.
func (o outline) series(subrings []int64) []int64 {
	series := []int64{allOf(o.ring)}
	for {
		last := series[len(series)-1]
		next := o.adjointIn(subrings, last)
		if bits.OnesCount64(uint64(next)) >= bits.OnesCount64(uint64(last)) {
			return series
		}
		series = append(series, next)
	}
}

// classesOf numbers, by their least labels, the sets of labels any two of which are together, and
// checks that these sets are told by any of their labels.
func classesOf(t *testing.T, what string, n int, together func(i, j int) bool) []int64 {
	t.Helper()
	numbers, count := repeated(-1, n), int64(0)
	for i := range n {
		if numbers[i] >= 0 {
			continue
		}
		for j := range n {
			if together(i, j) {
				numbers[j] = count
			}
		}
		count++
	}
	for i := range n {
		for j := range n {
			if together(i, j) != (numbers[i] == numbers[j]) {
				t.Errorf("%s: %d and %d are not told by the classes %v", what, i, j, numbers)
			}
		}
	}
	return numbers
}

// components has for each label the number of its component.
func (o outline) components(t *testing.T, what string, adjoint int64) []int64 {
	return classesOf(t, what, len(o.masks), func(i, j int) bool { return o.masks[o.duals[i]][j]&adjoint != 0 })
}

// cosets has for each label the number of its coset.
func (o outline) cosets(t *testing.T, what string, subring int64) []int64 {
	return classesOf(t, what, len(o.masks), func(i, j int) bool {
		for _, s := range membersOf(subring) {
			if o.masks[i][s]&setOf(j) != 0 {
				return true
			}
		}
		return false
	})
}

// alternatingCube makes the ring of the characters of the alternating group of 5 from their values
// at the identity, at 15 and 20 elements of the orders 2 and 3, and at twice 12 of the order 5.
func alternatingCube() impl.Ring {
	golden := (1 + math.Sqrt(5)) / 2
	values := [][]float64{{1, 1, 1, 1, 1}, {3, -1, 0, golden, 1 - golden}, {3, -1, 0, 1 - golden, golden}, {4, 0, 1, -1, -1}, {5, 1, -1, 0, 0}}
	return cubeOf(5, func(i, j, k int) int64 {
		sum := 0.0
		for class, size := range []float64{1, 15, 20, 12, 12} {
			sum += size * values[i][class] * values[j][class] * values[k][class]
		}
		return int64(math.Round(sum / 60))
	})
}

// gradedRings has the rings of chapter 4, and some with more components, with a longer series, with
// grading groups that are not commutative, or with 16 labels and only two subrings.
func gradedRings() map[string]impl.Ring {
	s, ising := &sequence{state: 23}, nearCube(2, sums(2), 0)
	groups := groupCube(6, twisted(3, 2, 2))
	added := map[string]impl.Ring{
		"of characters of A5":         alternatingCube(),
		"of characters of D4":         dihedralCube(4),
		"of characters of D6":         dihedralCube(6),
		"of characters of D8":         dihedralCube(8),
		"of characters of D12":        dihedralCube(12),
		"of characters of D16":        dihedralCube(16),
		"of characters of D4 and 3":   productCube(dihedralCube(4), groupCube(3, sums(3))),
		"of characters of D4 and S3":  productCube(dihedralCube(4), dihedralCube(3)),
		"of Ising twice":              productCube(ising, ising),
		"of Ising and the group 2 2":  productCube(ising, groupCube(4, sums(2, 2))),
		"of Ising and characters":     productCube(ising, dihedralCube(4)),
		"of Fibonacci and group S3":   productCube(fibonacci, groups),
		"of group S3 and Fibonacci":   productCube(groups, fibonacci),
		"of Fibonacci and quaternion": productCube(fibonacci, groupCube(8, quaternions)),
		"of spins 7":                  spinCube(7),
		"of spins 10":                 spinCube(10),
		"of even spins of 31":         takeLabels(spinCube(31), []int{0, 2, 4, 6, 8, 10, 12, 14, 16, 18, 20, 22, 24, 26, 28, 30}),
		"of even spins of 30":         takeLabels(spinCube(30), []int{0, 2, 4, 6, 8, 10, 12, 14, 16, 18, 20, 22, 24, 26, 28, 30}),
		"of the group 11":             groupCube(11, sums(11)),
		"of the group 12":             groupCube(12, sums(12)),
		"of the group of D6":          groupCube(12, twisted(6, 2, 5)),
		"near quaternions with 0":     nearCube(8, quaternions, 0),
		"near 2 2 2 with 0, and 2":    nearCube(8, sums(2, 2, 2), 0),
		"of Haagerup and 2":           productCube(turningCube(3, sums(3), 1), groupCube(2, sums(2))),
	}
	all := measuredRings()
	for _, name := range slices.Sorted(keysOf(added)) {
		all[name] = added[name]
		all[name+", shuffled"], _ = s.shuffled(added[name])
	}
	return all
}

func TestGradedRingsAreRings(t *testing.T) {
	ranks := map[int]int{}
	for name, r := range gradedRings() {
		if !impl.IsRing(r) {
			t.Errorf("%s is no ring", name)
		}
		ranks[len(r.Table)]++
	}
	if ranks[1] == 0 || ranks[16] == 0 {
		t.Errorf("the ranks are %v", ranks)
	}
}

func TestSubringsOf(t *testing.T) {
	for name, r := range gradedRings() {
		want := outlineOf(r).subrings()
		got, code := impl.SubringsOf(r)
		checkList(t, "SubringsOf "+name, got, code, want, impl.ErrNone)
		simple, code := impl.IsSimpleRing(r)
		checkBool(t, "IsSimpleRing "+name, simple, code, len(want) == 2, impl.ErrNone)
	}
}

func TestChosenSubrings(t *testing.T) {
	for _, test := range []struct {
		what string
		ring impl.Ring
		want []int64
	}{
		{"of one label", groupCube(1, sums(1)), []int64{1}},
		{"of the group 2", groupCube(2, sums(2)), []int64{1, 3}},
		{"of Fibonacci", fibonacci, []int64{1, 3}},
		{"of Ising", nearCube(2, sums(2), 0), []int64{1, 3, 7}},
		{"of Ising, shuffled", takeLabels(nearCube(2, sums(2), 0), []int{0, 2, 1}), []int64{1, 5, 7}},
		{"of D3", dihedralCube(3), []int64{1, 3, 7}},
		{"of the group 4", groupCube(4, sums(4)), []int64{1, 5, 15}},
		{"of the group 2 2", groupCube(4, sums(2, 2)), []int64{1, 3, 5, 9, 15}},
		{"of Fibonacci twice", productCube(fibonacci, fibonacci), []int64{1, 3, 5, 15}},
		// The elements are 2 x + y with y turning x: 0, 2, 4 are the rotations.
		{"of the group of S3", groupCube(6, twisted(3, 2, 2)), []int64{1, setOf(0, 1), setOf(0, 3), setOf(0, 2, 4), setOf(0, 5), 63}},
		{"of the group 16", groupCube(16, sums(16)), []int64{1, setOf(0, 8), setOf(0, 4, 8, 12), setOf(0, 2, 4, 6, 8, 10, 12, 14), 65535}},
		{"of even spins of 31", gradedRings()["of even spins of 31"], []int64{1, 65535}},
		{"of spins 15", spinCube(15), []int64{1, 0x5555, 1<<15 + 1, 65535}},
	} {
		got, code := impl.SubringsOf(test.ring)
		checkList(t, "SubringsOf the ring "+test.what, got, code, test.want, impl.ErrNone)
	}
	// The numbers of subgroups of some groups.
	for _, test := range []struct {
		what string
		ring impl.Ring
		want int
	}{
		{"2 2 2 2", groupCube(16, sums(2, 2, 2, 2)), 67},
		{"4 4", groupCube(16, sums(4, 4)), 15},
		{"4 2 2", groupCube(16, sums(4, 2, 2)), 27},
		{"quaternions", groupCube(8, quaternions), 6},
		{"of the square", groupCube(8, twisted(4, 2, 3)), 10},
		{"D8", groupCube(16, twisted(8, 2, 7)), 19},
	} {
		if got, code := impl.SubringsOf(test.ring); len(got) != test.want || code != impl.ErrNone {
			t.Errorf("SubringsOf the group %s has %d sets, %d, want %d", test.what, len(got), code, test.want)
		}
	}
}

func TestIsSubringOfAllSets(t *testing.T) {
	kinds := map[bool]int{}
	for name, r := range gradedRings() {
		if len(r.Table) > 7 {
			continue
		}
		o := outlineOf(r)
		for set := range allOf(r) + 1 {
			want := o.isSubring(set)
			kinds[want]++
			got, code := impl.IsSubring(r, set)
			checkBool(t, call("IsSubring "+name, set), got, code, want, impl.ErrNone)
		}
	}
	if kinds[false] == 0 || kinds[true] == 0 {
		t.Errorf("the sets are of the kinds %v", kinds)
	}
}

func TestIsSubringOfSomeSets(t *testing.T) {
	s := &sequence{state: 29}
	for name, r := range gradedRings() {
		o, n := outlineOf(r), len(r.Table)
		sets := []int64{0, 1, allOf(r), allOf(r) - 1, 1 << (n - 1), 1<<(n-1) | 1}
		for _, subring := range o.subrings() {
			// Next to each subring, those with one label more or less.
			sets = append(sets, subring, subring^1, subring^1<<s.next(int64(n)))
		}
		for _, set := range sets {
			got, code := impl.IsSubring(r, set)
			checkBool(t, call("IsSubring "+name, set), got, code, o.isSubring(set), impl.ErrNone)
		}
	}
}

func TestChosenSets(t *testing.T) {
	four, ising := groupCube(4, sums(4)), nearCube(2, sums(2), 0)
	for _, test := range []struct {
		what string
		ring impl.Ring
		set  int64
		want bool
	}{
		{"the set of 0", four, 1, true},
		{"all labels", four, 15, true},
		{"no labels", four, 0, false},
		{"all labels but 0", four, 14, false},
		{"one label and not 0", four, setOf(2), false},
		{"a dual too few", four, setOf(0, 1), false},
		{"all but one dual", four, setOf(0, 1, 2), false},
		{"duals, and a product too few", four, setOf(0, 1, 3), false},
		{"the label of order 2", four, setOf(0, 2), true},
		{"a product with itself too few", ising, setOf(0, 2), false},
		{"the invertible labels", ising, setOf(0, 1), true},
		{"duals of the others, without 0", ising, setOf(1, 2), false},
		{"the product of both too few", groupCube(4, sums(2, 2)), setOf(0, 1, 2), false},
		{"squares too few", productCube(fibonacci, fibonacci), setOf(0, 3), false},
		{"one label, 0", groupCube(1, sums(1)), 1, true},
		{"one label, none", groupCube(1, sums(1)), 0, false},
		// x times y is outside, y times x is not.
		{"products in one order only", groupCube(6, twisted(3, 2, 2)), setOf(0, 1, 2), false},
		{"the last of 16 labels", groupCube(16, sums(2, 2, 2, 2)), 1<<15 + 1, true},
		{"the last two of 16 labels", groupCube(16, sums(2, 2, 2, 2)), 3<<14 + 1, false},
	} {
		got, code := impl.IsSubring(test.ring, test.set)
		checkBool(t, "IsSubring with "+test.what, got, code, test.want, impl.ErrNone)
	}
}

func TestSetsThatAreClosed(t *testing.T) {
	// No set is closed under products and not under duals, or has no 0 then, but that of no label.
	dualsOnly := 0
	for name, r := range gradedRings() {
		o := outlineOf(r)
		for set := range allOf(r) + 1 {
			products := o.isClosedUnderProducts(set)
			if set != 0 && products != o.isSubring(set) {
				t.Errorf("%s: the set %d is closed under products, and no subring", name, set)
			}
			if set%2 == 1 && !products && len(r.Table) <= 7 && o.isClosedUnderDuals(set) {
				dualsOnly++
				got, code := impl.IsSubring(r, set)
				checkBool(t, call("IsSubring "+name, set), got, code, false, impl.ErrNone)
			}
		}
	}
	if dualsOnly == 0 {
		t.Error("no set is closed under duals only")
	}
}

func TestNumbersThatAreNoSets(t *testing.T) {
	for _, r := range []impl.Ring{groupCube(1, sums(1)), fibonacci, groupCube(16, sums(16))} {
		one := allOf(r) + 1
		for _, set := range []int64{-1, -2, one, one + 1, 2*one + 1, 1<<32 + 1, 1<<62 + 1, math.MinInt64, math.MinInt64 + 1, math.MaxInt64} {
			is, code := impl.IsSubring(r, set)
			checkBool(t, call("IsSubring", set), is, code, false, impl.ErrRange)
			ring, code := impl.RingOfSubring(r, set)
			checkRing(t, call("RingOfSubring", set), ring, code, impl.Ring{}, impl.ErrRange)
			cosets, code := impl.CosetsOf(r, set)
			checkList(t, call("CosetsOf", set), cosets, code, nil, impl.ErrRange)
		}
	}
}

func TestSetsThatAreNoSubrings(t *testing.T) {
	for name, r := range gradedRings() {
		o := outlineOf(r)
		for set := range min(allOf(r)+1, 64) {
			want := int64(impl.ErrState)
			if o.isSubring(set) {
				want = impl.ErrNone
			}
			ring, code := impl.RingOfSubring(r, set)
			if code != want || (code != impl.ErrNone) != (len(ring.Table) == 0) {
				t.Errorf("%s = %v, %d, want %d", call("RingOfSubring "+name, set), ring, code, want)
			}
			cosets, code := impl.CosetsOf(r, set)
			if code != want || (code != impl.ErrNone) != (len(cosets) == 0) {
				t.Errorf("%s = %v, %d, want %d", call("CosetsOf "+name, set), cosets, code, want)
			}
		}
	}
}

func TestSubringFrom(t *testing.T) {
	s := &sequence{state: 31}
	for name, r := range gradedRings() {
		n, subrings := len(r.Table), outlineOf(r).subrings()
		lists := [][]int64{nil, {}, {0}, {0, 0}}
		for i := range int64(n) {
			lists = append(lists, []int64{i}, []int64{i, i}, []int64{s.next(int64(n)), i})
		}
		for range 4 {
			lists = append(lists, s.vector(r, int64(n)))
		}
		for _, list := range lists {
			set := int64(0)
			for _, i := range list {
				set |= 1 << i
			}
			got, code := impl.SubringFrom(r, list)
			checkNumber(t, call("SubringFrom "+name, list...), got, code, leastWith(subrings, set), impl.ErrNone)
		}
	}
}

func TestChosenLists(t *testing.T) {
	twelve := groupCube(12, sums(12))
	for _, test := range []struct {
		what string
		ring impl.Ring
		list []int64
		want int64
	}{
		{"the example", dihedralCube(3), []int64{1}, 3},
		{"no label", twelve, nil, 1},
		{"no label, of one", groupCube(1, sums(1)), nil, 1},
		{"0 often, of one", groupCube(1, sums(1)), repeated(0, 1000), 1},
		{"one label", twelve, []int64{9}, setOf(0, 3, 6, 9)},
		{"two labels", twelve, []int64{8, 6}, setOf(0, 2, 4, 6, 8, 10)},
		{"a label often", twelve, repeated(4, 100), setOf(0, 4, 8)},
		{"labels in descending order, twice", twelve, []int64{6, 4, 6, 4}, setOf(0, 2, 4, 6, 8, 10)},
		{"all labels", twelve, []int64{0, 1, 2, 3, 4, 5, 6, 7, 8, 9, 10, 11}, 4095},
		{"many steps", gradedRings()["of even spins of 31"], []int64{1}, 65535},
		{"the last of 16", spinCube(15), []int64{15}, 1<<15 + 1},
		{"a turned label", groupCube(6, twisted(3, 2, 2)), []int64{3}, setOf(0, 3)},
		{"two turned labels", groupCube(6, twisted(3, 2, 2)), []int64{1, 5}, 63},
	} {
		got, code := impl.SubringFrom(test.ring, test.list)
		checkNumber(t, "SubringFrom with "+test.what, got, code, test.want, impl.ErrNone)
	}
}

func TestListsWithoutLabels(t *testing.T) {
	for _, r := range []impl.Ring{groupCube(1, sums(1)), fibonacci, groupCube(16, sums(16))} {
		n := int64(len(r.Table))
		for _, i := range []int64{-1, n, n + 1, 63, 64, math.MinInt64, math.MaxInt64} {
			for _, list := range [][]int64{{i}, {0, i}, {i, 0}, {i, i}, {n - 1, i, 0}, append(repeated(0, 100), i)} {
				got, code := impl.SubringFrom(r, list)
				checkNumber(t, call("SubringFrom", list...), got, code, 0, impl.ErrRange)
			}
		}
		if _, code := impl.SubringFrom(r, []int64{n - 1}); code != impl.ErrNone {
			t.Errorf("%s returns %d", call("SubringFrom", n-1), code)
		}
	}
}

func TestRingOfSubring(t *testing.T) {
	for name, r := range gradedRings() {
		for _, set := range outlineOf(r).subrings() {
			got, code := impl.RingOfSubring(r, set)
			checkRing(t, call("RingOfSubring "+name, set), got, code, takeLabels(r, membersOf(set)), impl.ErrNone)
			if !impl.IsRing(got) {
				t.Errorf("%s is no ring", call("RingOfSubring "+name, set))
			}
		}
	}
	even, code := impl.RingOfSubring(spinCube(15), 0x5555)
	checkRing(t, "RingOfSubring of even labels", even, code, takeLabels(spinCube(15), []int{0, 2, 4, 6, 8, 10, 12, 14}), impl.ErrNone)
	near, code := impl.RingOfSubring(nearCube(3, sums(3), 1000), 7)
	checkRing(t, "RingOfSubring of elements", near, code, groupCube(3, sums(3)), impl.ErrNone)
}

// checkSeries compares the adjoint subring, the series and the class with those of a wanted series.
func checkSeries(t *testing.T, what string, r impl.Ring, want []int64) {
	t.Helper()
	adjoint, code := impl.AdjointOf(r)
	checkNumber(t, "AdjointOf "+what, adjoint, code, want[min(1, len(want)-1)], impl.ErrNone)
	series, code := impl.AdjointSeries(r)
	checkList(t, "AdjointSeries "+what, series, code, want, impl.ErrNone)
	class, wantCode := int64(len(want)-1), int64(impl.ErrNone)
	if want[class] != 1 {
		class, wantCode = 0, impl.ErrNotFound
	}
	got, code := impl.NilpotencyClass(r)
	checkNumber(t, "NilpotencyClass "+what, got, code, class, wantCode)
}

func TestAdjointSeries(t *testing.T) {
	classes := map[int]int{}
	for name, r := range gradedRings() {
		o := outlineOf(r)
		series := o.series(o.subrings())
		checkSeries(t, name, r, series)
		if series[len(series)-1] == 1 {
			classes[len(series)-1]++
		} else {
			classes[-len(series)]++
		}
	}
	// Nilpotent rings of the classes 0 to 4, and others with series of one set and of more.
	for _, class := range []int{0, 1, 2, 3, 4, -1, -2} {
		if classes[class] == 0 {
			t.Errorf("the classes are %v", classes)
		}
	}
}

func TestChosenSeries(t *testing.T) {
	for _, test := range []struct {
		what string
		ring impl.Ring
		want []int64
	}{
		{"of one label", groupCube(1, sums(1)), []int64{1}},
		{"of the group 2", groupCube(2, sums(2)), []int64{3, 1}},
		{"of the group 16", groupCube(16, sums(16)), []int64{65535, 1}},
		{"of the group of S3", groupCube(6, twisted(3, 2, 2)), []int64{63, 1}},
		{"of Fibonacci", fibonacci, []int64{3}},
		{"of Ising", nearCube(2, sums(2), 0), []int64{7, 3, 1}},
		{"near 2 with 1", nearCube(2, sums(2), 1), []int64{7}},
		{"of D3", dihedralCube(3), []int64{7}},
		{"of D4", dihedralCube(4), []int64{31, 15, 1}},
		// V(2) is the label 5, and the characters of the quotient by the middle are 0 to 3 and 5.
		{"of D6", dihedralCube(6), []int64{63, setOf(0, 1, 5)}},
		{"of D8", dihedralCube(8), []int64{127, setOf(0, 1, 2, 3, 5), setOf(0, 1, 2, 3), 1}},
		{"of spins 3", spinCube(3), []int64{15, 5}},
		{"of spins 15", spinCube(15), []int64{65535, 0x5555}},
		{"of Fibonacci and the group 2", productCube(fibonacci, groupCube(2, sums(2))), []int64{15, 5}},
		{"of Haagerup", turningCube(3, sums(3), 1), []int64{63}},
	} {
		if o := outlineOf(test.ring); !slices.Equal(test.want, o.series(o.subrings())) {
			t.Errorf("the series of the ring %s is told as %v and %v", test.what, test.want, o.series(o.subrings()))
		}
		checkSeries(t, "of the ring "+test.what, test.ring, test.want)
	}
	for n, class := range map[int]int64{2: 1, 4: 2, 8: 3, 16: 4} {
		got, code := impl.NilpotencyClass(dihedralCube(n))
		checkNumber(t, call("NilpotencyClass of a dihedral ring", int64(n)), got, code, class, impl.ErrNone)
	}
}

// checkGroup checks that a table of n rows is that of a group with the identity 0.
func checkGroup(t *testing.T, what string, group table, n int) {
	t.Helper()
	if len(group) != n {
		t.Errorf("%s has %d rows, want %d", what, len(group), n)
		return
	}
	for a, row := range group {
		if len(row) != n {
			t.Errorf("%s has %d columns", what, len(row))
			return
		}
		sorted := slices.Sorted(slices.Values(row))
		if slices.Min(row) < 0 || slices.Max(row) >= int64(n) || len(slices.Compact(sorted)) != n || row[0] != int64(a) || group[0][a] != int64(a) {
			t.Errorf("%s has the row %v", what, row)
			return
		}
	}
	for a := range group {
		for b := range group {
			for c := range group {
				if group[group[a][b]][c] != group[a][group[b][c]] {
					t.Errorf("%s is not associative: %v", what, group)
				}
			}
		}
	}
}

func TestComponentsOf(t *testing.T) {
	counts := map[bool]int{}
	for name, r := range gradedRings() {
		o := outlineOf(r)
		adjoint := o.adjointIn(o.subrings(), allOf(r))
		want := o.components(t, name, adjoint)
		got, code := impl.ComponentsOf(r)
		checkList(t, "ComponentsOf "+name, got, code, want, impl.ErrNone)
		counts[slices.Max(want) > 0]++
		// They are the cosets of the adjoint subring, which is the component of 0.
		own, _ := impl.AdjointOf(r)
		cosets, code := impl.CosetsOf(r, own)
		checkList(t, "CosetsOf the adjoint subring "+name, cosets, code, got, impl.ErrNone)
		for i, component := range got {
			if (component == 0) != (own>>i&1 == 1) {
				t.Errorf("ComponentsOf %s has %v, with the adjoint subring %d", name, got, own)
			}
		}
	}
	if counts[false] == 0 || counts[true] == 0 {
		t.Errorf("the rings with one component, and with more, are %v", counts)
	}
}

func TestGradingGroup(t *testing.T) {
	kinds := map[bool]int{}
	for name, r := range gradedRings() {
		o := outlineOf(r)
		components := o.components(t, name, o.adjointIn(o.subrings(), allOf(r)))
		group, code := impl.GradingGroup(r)
		if code != impl.ErrNone {
			t.Errorf("GradingGroup %s returns %d", name, code)
		}
		n := int(slices.Max(components)) + 1
		checkGroup(t, "GradingGroup "+name, group, n)
		if len(group) != n {
			continue
		}
		commutative := true
		for i, a := range components {
			for j, b := range components {
				commutative = commutative && group[a][b] == group[b][a]
				for _, k := range membersOf(o.masks[i][j]) {
					if components[k] != group[a][b] {
						t.Errorf("GradingGroup %s has %v, and %d in %d times %d", name, group, k, i, j)
					}
				}
			}
		}
		kinds[commutative]++
	}
	if kinds[false] == 0 || kinds[true] == 0 {
		t.Errorf("the groups that are not commutative, and those that are, are %v", kinds)
	}
}

// tableOfGroup has the products of a group of n elements.
func tableOfGroup(n int, times func(a, b int) int) table {
	m := tableOf(n, n, 0)
	for a := range n {
		for b := range n {
			m[a][b] = int64(times(a, b))
		}
	}
	return m
}

func TestChosenGradings(t *testing.T) {
	groups := twisted(3, 2, 2)
	ising := nearCube(2, sums(2), 0)
	for _, test := range []struct {
		what       string
		ring       impl.Ring
		components []int64
		group      table
	}{
		{"of one label", groupCube(1, sums(1)), []int64{0}, table{{0}}},
		{"of Fibonacci", fibonacci, []int64{0, 0}, table{{0}}},
		{"of D3", dihedralCube(3), []int64{0, 0, 0}, table{{0}}},
		{"of Ising", ising, []int64{0, 0, 1}, tableOfGroup(2, sums(2))},
		{"of Ising, shuffled", takeLabels(ising, []int{0, 2, 1}), []int64{0, 1, 0}, tableOfGroup(2, sums(2))},
		{"of spins 4", spinCube(4), []int64{0, 1, 0, 1, 0}, tableOfGroup(2, sums(2))},
		{"of the group 5", groupCube(5, sums(5)), []int64{0, 1, 2, 3, 4}, tableOfGroup(5, sums(5))},
		{"of the group of S3", groupCube(6, groups), []int64{0, 1, 2, 3, 4, 5}, tableOfGroup(6, groups)},
		{"of Fibonacci and group S3", productCube(fibonacci, groupCube(6, groups)), []int64{0, 1, 2, 3, 4, 5, 0, 1, 2, 3, 4, 5}, tableOfGroup(6, groups)},
		{"of group S3 and Fibonacci", productCube(groupCube(6, groups), fibonacci), []int64{0, 0, 1, 1, 2, 2, 3, 3, 4, 4, 5, 5}, tableOfGroup(6, groups)},
		{"of Ising twice", productCube(ising, ising), []int64{0, 0, 1, 0, 0, 1, 2, 2, 3}, tableOfGroup(4, sums(2, 2))},
		{"of the group 16", groupCube(16, sums(16)), []int64{0, 1, 2, 3, 4, 5, 6, 7, 8, 9, 10, 11, 12, 13, 14, 15}, tableOfGroup(16, sums(16))},
	} {
		components, code := impl.ComponentsOf(test.ring)
		checkList(t, "ComponentsOf the ring "+test.what, components, code, test.components, impl.ErrNone)
		group, code := impl.GradingGroup(test.ring)
		checkTable(t, "GradingGroup of the ring "+test.what, group, code, test.group, impl.ErrNone)
	}
}

func TestPointedRingsAreGraded(t *testing.T) {
	count := 0
	for name, r := range gradedRings() {
		n := len(r.Table)
		if len(invertibleIn(r)) < n {
			continue
		}
		count++
		adjoint, code := impl.AdjointOf(r)
		checkNumber(t, "AdjointOf "+name, adjoint, code, 1, impl.ErrNone)
		group, code := impl.GradingGroup(r)
		want := tableOfGroup(n, func(a, b int) int { return slices.Index(r.Table[a][b], 1) })
		checkTable(t, "GradingGroup "+name, group, code, want, impl.ErrNone)
	}
	if count == 0 {
		t.Error("no ring is pointed")
	}
}

func TestSumsOfSquaresOfComponents(t *testing.T) {
	graded := 0
	for name, r := range gradedRings() {
		components, code := impl.ComponentsOf(r)
		if code != impl.ErrNone {
			t.Errorf("ComponentsOf %s returns %d", name, code)
			continue
		}
		count := slices.Max(components) + 1
		squares, rough := repeated(0, int(count)), make([]float64, count)
		for i, d := range floatDimensions(r) {
			rough[components[i]] += d * d
		}
		for _, sum := range rough {
			if math.Abs(sum-rough[0]) > 1e-9*rough[0] {
				t.Errorf("%s: the sums of squares of the components are %v", name, rough)
			}
		}
		dimensions, code := impl.IntegerDimensions(r)
		if code != impl.ErrNone {
			continue
		}
		graded += int(truth(count > 1))
		for i, d := range dimensions {
			squares[components[i]] += d * d
		}
		whole, _ := impl.WholeDimension(r)
		for _, sum := range squares {
			if sum*count != whole {
				t.Errorf("%s: the sums of squares of the components are %v, of %d", name, squares, whole)
			}
		}
	}
	if graded == 0 {
		t.Error("no integral ring has more than one component")
	}
}

func TestCosetsOf(t *testing.T) {
	for name, r := range gradedRings() {
		o, n := outlineOf(r), len(r.Table)
		subrings := o.subrings()
		for _, set := range subrings {
			what := call("CosetsOf "+name, set)
			got, code := impl.CosetsOf(r, set)
			checkList(t, what, got, code, o.cosets(t, what, set), impl.ErrNone)
		}
		// Those of the set of 0 have one label each, and all labels are one.
		got, code := impl.CosetsOf(r, 1)
		checkList(t, call("CosetsOf "+name, 1), got, code, wideList(labelsOf(r)), impl.ErrNone)
		got, code = impl.CosetsOf(r, allOf(r))
		checkList(t, call("CosetsOf "+name, allOf(r)), got, code, repeated(0, n), impl.ErrNone)
	}
}

func TestChosenCosets(t *testing.T) {
	groups := groupCube(6, twisted(3, 2, 2))
	for _, test := range []struct {
		what string
		ring impl.Ring
		set  int64
		want []int64
	}{
		{"D3", dihedralCube(3), 3, []int64{0, 0, 1}},
		{"the group 6, by 3", groupCube(6, sums(6)), setOf(0, 3), []int64{0, 1, 2, 0, 1, 2}},
		{"the group 6, by 2 and 4", groupCube(6, sums(6)), setOf(0, 2, 4), []int64{0, 1, 0, 1, 0, 1}},
		// 2 times 1 is 3, and 1 times 2 is 5: the cosets have the subring on the right.
		{"the group of S3, by 1", groups, setOf(0, 1), []int64{0, 0, 1, 1, 2, 2}},
		{"the opposite group of S3, by 1", cubeOf(6, func(i, j, k int) int64 { return groups.Table[j][i][k] }), setOf(0, 1), []int64{0, 0, 1, 2, 2, 1}},
		{"the group of S3, by rotations", groups, setOf(0, 2, 4), []int64{0, 1, 0, 1, 0, 1}},
		{"Fibonacci twice, by the last", productCube(fibonacci, fibonacci), 3, []int64{0, 0, 1, 1}},
		{"Fibonacci twice, by the first", productCube(fibonacci, fibonacci), 5, []int64{0, 1, 0, 1}},
		{"spins 15, by the last", spinCube(15), 1<<15 + 1, []int64{0, 1, 2, 3, 4, 5, 6, 7, 7, 6, 5, 4, 3, 2, 1, 0}},
		{"spins 15, by even labels", spinCube(15), 0x5555, []int64{0, 1, 0, 1, 0, 1, 0, 1, 0, 1, 0, 1, 0, 1, 0, 1}},
		{"one label", groupCube(1, sums(1)), 1, []int64{0}},
	} {
		got, code := impl.CosetsOf(test.ring, test.set)
		checkList(t, "CosetsOf "+test.what, got, code, test.want, impl.ErrNone)
	}
	// Without a commutative product the two kinds of cosets differ.
	left, _ := impl.CosetsOf(groups, setOf(0, 3))
	if slices.Equal(left, outlineOf(cubeOf(6, func(i, j, k int) int64 { return groups.Table[j][i][k] })).cosets(t, "opposite", setOf(0, 3))) {
		t.Error("CosetsOf the group of S3 are those of its opposite")
	}
}

func TestIsSimpleRing(t *testing.T) {
	all := gradedRings()
	for name, want := range map[string]bool{
		"of one label":                  false,
		"of the group 2":                true,
		"of the group 7":                true,
		"of the group 11":               true,
		"of the group 16":               false,
		"of the group 4":                false,
		"of the group of S3":            false,
		"of Fibonacci":                  true,
		"of Ising":                      false,
		"of Fibonacci twice":            false,
		"of even spins":                 true,
		"of even spins of 31":           true,
		"of even spins of 31, shuffled": true,
		"of even spins of 30":           false,
		"of spins 15":                   false,
		"near 1 with 1000":              true,
		"near 2 with 1000":              false,
		"of characters of A5":           true,
		"integral, of characters of S5": false,
	} {
		if len(all[name].Table) == 0 {
			t.Errorf("there is no ring %s", name)
		}
		got, code := impl.IsSimpleRing(all[name])
		checkBool(t, "IsSimpleRing "+name, got, code, want, impl.ErrNone)
	}
}

func TestInvertibleSubring(t *testing.T) {
	for name, r := range gradedRings() {
		want := int64(0)
		for _, i := range invertibleIn(r) {
			want |= 1 << i
		}
		got, code := impl.InvertibleSubring(r)
		checkNumber(t, "InvertibleSubring "+name, got, code, want, impl.ErrNone)
		is, code := impl.IsSubring(r, got)
		checkBool(t, "IsSubring of the invertible labels "+name, is, code, true, impl.ErrNone)
	}
	for _, test := range []struct {
		what string
		ring impl.Ring
		want int64
	}{
		{"of one label", groupCube(1, sums(1)), 1},
		{"of Fibonacci", fibonacci, 1},
		{"of D3", dihedralCube(3), 3},
		{"of Ising, shuffled", takeLabels(nearCube(2, sums(2), 0), []int{0, 2, 1}), 5},
		{"of spins 15", spinCube(15), 1<<15 + 1},
		{"of the group 16", groupCube(16, sums(16)), 65535},
	} {
		got, code := impl.InvertibleSubring(test.ring)
		checkNumber(t, "InvertibleSubring of the ring "+test.what, got, code, test.want, impl.ErrNone)
	}
}

// subringFunctions has the functions of chapter 5 with arguments that fit a ring, or do not fit. Each
// one also tells whether the result beside the code is the zero value.
func subringFunctions() map[string]func(impl.Ring) (bool, int64) {
	lists := func(list []int64, code int64) (bool, int64) { return len(list) == 0, code }
	numbers := func(a int64, code int64) (bool, int64) { return a == 0, code }
	bools := func(is bool, code int64) (bool, int64) { return !is, code }
	rings := func(r impl.Ring, code int64) (bool, int64) { return len(r.Table) == 0, code }
	tables := func(m table, code int64) (bool, int64) { return len(m) == 0, code }
	return map[string]func(impl.Ring) (bool, int64){
		"IsSubring":                 func(r impl.Ring) (bool, int64) { return bools(impl.IsSubring(r, 1)) },
		"IsSubring, no set":         func(r impl.Ring) (bool, int64) { return bools(impl.IsSubring(r, -1)) },
		"IsSubring, too great":      func(r impl.Ring) (bool, int64) { return bools(impl.IsSubring(r, 1<<17)) },
		"SubringFrom":               func(r impl.Ring) (bool, int64) { return numbers(impl.SubringFrom(r, []int64{0})) },
		"SubringFrom, empty":        func(r impl.Ring) (bool, int64) { return numbers(impl.SubringFrom(r, nil)) },
		"SubringFrom, no label":     func(r impl.Ring) (bool, int64) { return numbers(impl.SubringFrom(r, []int64{-1})) },
		"SubringFrom, too great":    func(r impl.Ring) (bool, int64) { return numbers(impl.SubringFrom(r, []int64{17})) },
		"SubringsOf":                func(r impl.Ring) (bool, int64) { return lists(impl.SubringsOf(r)) },
		"RingOfSubring":             func(r impl.Ring) (bool, int64) { return rings(impl.RingOfSubring(r, 1)) },
		"RingOfSubring, no set":     func(r impl.Ring) (bool, int64) { return rings(impl.RingOfSubring(r, -1)) },
		"RingOfSubring, no subring": func(r impl.Ring) (bool, int64) { return rings(impl.RingOfSubring(r, 0)) },
		"AdjointOf":                 func(r impl.Ring) (bool, int64) { return numbers(impl.AdjointOf(r)) },
		"AdjointSeries":             func(r impl.Ring) (bool, int64) { return lists(impl.AdjointSeries(r)) },
		"NilpotencyClass":           func(r impl.Ring) (bool, int64) { return numbers(impl.NilpotencyClass(r)) },
		"ComponentsOf":              func(r impl.Ring) (bool, int64) { return lists(impl.ComponentsOf(r)) },
		"GradingGroup":              func(r impl.Ring) (bool, int64) { return tables(impl.GradingGroup(r)) },
		"CosetsOf":                  func(r impl.Ring) (bool, int64) { return lists(impl.CosetsOf(r, 1)) },
		"CosetsOf, no set":          func(r impl.Ring) (bool, int64) { return lists(impl.CosetsOf(r, 1<<17)) },
		"CosetsOf, no subring":      func(r impl.Ring) (bool, int64) { return lists(impl.CosetsOf(r, 0)) },
		"IsSimpleRing":              func(r impl.Ring) (bool, int64) { return bools(impl.IsSimpleRing(r)) },
		"InvertibleSubring":         func(r impl.Ring) (bool, int64) { return numbers(impl.InvertibleSubring(r)) },
	}
}

func TestSubringsOfWhatIsNoRing(t *testing.T) {
	for _, rings := range []map[string]impl.Ring{noCubes(), noRings()} {
		for what, r := range rings {
			for name, function := range subringFunctions() {
				if zero, code := function(r); !zero || code != impl.ErrInvalid {
					t.Errorf("%s with %s returns %d, zero %v", name, what, code, zero)
				}
			}
		}
	}
}

func TestSubringsLeaveArgumentsAlone(t *testing.T) {
	for name, ring := range gradedRings() {
		r := roomyRing(ring)
		whole := wholeRing(r)
		list := append(repeated(0, len(ring.Table)), 3, 4)[:len(ring.Table)]
		list[0] = int64(len(ring.Table) - 1)
		want := slices.Clone(list[:len(list)+2])
		for _, function := range subringFunctions() {
			function(r)
		}
		impl.SubringFrom(r, list)
		impl.RingOfSubring(r, allOf(ring))
		impl.CosetsOf(r, allOf(ring))
		if !reflect.DeepEqual(wholeRing(r), whole) {
			t.Errorf("the ring %s became %v", name, r)
		}
		if !slices.Equal(list[:len(list)+2], want) {
			t.Errorf("the list of %s became %v", name, list[:len(list)+2])
		}
	}
}

// overwriteRows writes into each row of a table and behind it, which must be seen in no other one.
func overwriteRows(t *testing.T, name string, m table) {
	t.Helper()
	want := copyTable(m)
	for i := range m {
		row := append(m[i], 5, 5, 5)
		for k := range row {
			row[k] = 5
		}
		copy(m[i], row)
		want[i] = repeated(5, len(m[i]))
		if !sameTable(m, want) {
			t.Errorf("%s: rows share memory: %v", name, m)
		}
	}
}

func TestSubringResultsAreNew(t *testing.T) {
	for _, r := range []impl.Ring{groupCube(1, sums(1)), nearCube(2, sums(2), 0), groupCube(6, twisted(3, 2, 2))} {
		old := copyRing(r)
		for name, function := range map[string]func() ([]int64, int64){
			"SubringsOf":    func() ([]int64, int64) { return impl.SubringsOf(r) },
			"AdjointSeries": func() ([]int64, int64) { return impl.AdjointSeries(r) },
			"ComponentsOf":  func() ([]int64, int64) { return impl.ComponentsOf(r) },
			"CosetsOf":      func() ([]int64, int64) { return impl.CosetsOf(r, 1) },
		} {
			first, _ := function()
			want := slices.Clone(first)
			for i := range first {
				first[i] = -7
			}
			second, code := function()
			checkList(t, name, second, code, want, impl.ErrNone)
		}
		for _, set := range outlineOf(r).subrings() {
			ring, _ := impl.RingOfSubring(r, set)
			overwrite(t, call("RingOfSubring", set), ring)
		}
		group, _ := impl.GradingGroup(r)
		want := copyTable(group)
		overwriteRows(t, "GradingGroup", group)
		again, code := impl.GradingGroup(r)
		checkTable(t, "GradingGroup", again, code, want, impl.ErrNone)
		if !reflect.DeepEqual(r, old) {
			t.Errorf("a result shares memory with the ring %v", r)
		}
	}
}

func TestSubringsAtOnce(t *testing.T) {
	r := groupCube(12, sums(12))
	want, _ := impl.SubringsOf(r)
	results := make(chan []int64)
	for range 8 {
		go func() {
			subrings, _ := impl.SubringsOf(r)
			results <- subrings
		}()
	}
	for range 8 {
		checkList(t, "SubringsOf at once", <-results, impl.ErrNone, want, impl.ErrNone)
	}
}
