package tests

import (
	"math"
	"math/bits"
	"slices"
	"testing"

	"loop.example/g00854/impl"
)

// The signatures of chapter 4.
var (
	_ func(int64, int64) int64                     = impl.Binomial
	_ func([]int64, []int64) (int64, int64)        = impl.RankSubset
	_ func([]int64, int64, int64) ([]int64, int64) = impl.UnrankSubset
	_ func([]int64, []int64) ([]int64, int64)      = impl.NextSubset
	_ func([]int64) int64                          = impl.HandNumber
	_ func(int64, int64) ([]int64, int64)          = impl.HandOfNumber
	_ func(impl.Deal) ([]int64, bool)              = impl.DealNumbers
	_ func([]int64, []int64) (impl.Deal, int64)    = impl.DealOfNumbers
)

// pascal holds the triangle of Pascal up to the row 52, made by additions alone.
type pascal [53][53]int64

func makePascal() *pascal {
	var triangle pascal
	for n := range triangle {
		triangle[n][0] = 1
		for k := 1; k <= n; k++ {
			triangle[n][k] = triangle[n-1][k-1] + triangle[n-1][k]
		}
	}
	return &triangle
}

// numberOf counts from the end: it takes the subsets that come behind from the number of all, so
// that it does not follow the program's own way.
func (p *pascal) numberOf(list, subset []int64) int64 {
	number := p[len(list)][len(subset)] - 1
	for i, element := range subset {
		place := slices.Index(list, element)
		if k := len(subset) - i; k <= len(list)-1-place {
			number -= p[len(list)-1-place][k]
		}
	}
	return number
}

func (p *pascal) numbersOf(d impl.Deal) []int64 {
	var numbers []int64
	left := slices.Sorted(slices.Values(slices.Concat(d.Hands...)))
	for _, hand := range d.Hands[:3] {
		numbers = append(numbers, p.numberOf(left, hand))
		left = withoutAll(left, hand)
	}
	return numbers
}

func withoutAll(list, removed []int64) []int64 {
	for _, element := range removed {
		list = listWithout(list, element)
	}
	return list
}

// subsetsInOrder lists the subsets with k elements of a short list as the document orders them.
func subsetsInOrder(list []int64, k int) [][]int64 {
	var subsets [][]int64
	for set := range uint(1) << len(list) {
		if bits.OnesCount(set) != k {
			continue
		}
		var subset []int64
		for i, element := range list {
			if set>>i&1 == 1 {
				subset = append(subset, element)
			}
		}
		subsets = append(subsets, subset)
	}
	slices.SortFunc(subsets, slices.Compare[[]int64])
	return subsets
}

// shortCardLists lists card lists of 0 to 10 elements, those at both ends of the cards among them.
func shortCardLists() [][]int64 {
	list := [][]int64{nil, {}, {1, 3, 5}, {0, 51}, {11, 12, 13, 14, 25, 26, 39}}
	numbers := numberStream(8)
	for size := 0; size <= 10; size++ {
		list = append(list, cardRange(0, int64(size)-1), cardRange(52-int64(size), 51), numbers.someHand(size))
	}
	return list
}

// notCardLists lists lists that are no card lists, long ones among them. A long list of cards is
// no hand, but it is a card list.
func notCardLists() [][]int64 {
	list := slices.DeleteFunc(notHands(), func(list []int64) bool {
		return len(list) > 13 && list[0] >= 0 && list[len(list)-1] <= 51 && list[0] < list[1]
	})
	list = append(list, cardRange(0, 52), cardRange(-1, 51), cardRange(1, 52), cardRange(-1, 50), cardRange(-100, 100))
	for place := range 52 {
		for _, wrong := range []int64{-1, 52, math.MinInt64, math.MaxInt64, int64(place) + 1, int64(place) - 1} {
			changed := cardRange(0, 51)
			changed[place] = wrong
			list = append(list, changed)
		}
	}
	return list
}

// noNumbers lists numbers that are not in 0..count-1.
func noNumbers(count int64) []int64 {
	return []int64{
		-1, -2, -count, -count - 1, count, count + 1, 2 * count, count + 1<<32, -(1 << 32), 1 << 52, 1 << 62, -(1 << 62),
		math.MinInt64, math.MinInt64 + 1, math.MaxInt64, math.MaxInt64 - 1,
	}
}

func mustHaveNumber(t *testing.T, list, subset []int64, want int64) {
	t.Helper()
	if number, code := impl.RankSubset(list, subset); code != impl.ErrNone || number != want {
		t.Fatalf("RankSubset(%v, %v) = %d, code %d, want %d", list, subset, number, code, want)
	}
	if got, code := impl.UnrankSubset(list, int64(len(subset)), want); code != impl.ErrNone || !slices.Equal(got, subset) {
		t.Fatalf("UnrankSubset(%v, %d, %d) = %v, code %d, want %v", list, len(subset), want, got, code, subset)
	}
}

// mustBeNext takes nil and ErrNotFound for the subset after the last one.
func mustBeNext(t *testing.T, list, subset, want []int64, wantCode int64) {
	t.Helper()
	if got, code := impl.NextSubset(list, subset); code != wantCode || !slices.Equal(got, want) {
		t.Fatalf("NextSubset(%v, %v) = %v, code %d, want %v, code %d", list, subset, got, code, want, wantCode)
	}
}

func mustNotRank(t *testing.T, list, subset []int64, want int64) {
	t.Helper()
	if number, code := impl.RankSubset(list, subset); code != want || number != 0 {
		t.Errorf("RankSubset(%v, %v) = %d, code %d, want 0, code %d", list, subset, number, code, want)
	}
	if next, code := impl.NextSubset(list, subset); code != want || len(next) != 0 {
		t.Errorf("NextSubset(%v, %v) = %v, code %d, want none, code %d", list, subset, next, code, want)
	}
}

func mustNotUnrank(t *testing.T, list []int64, k, number, want int64) {
	t.Helper()
	if subset, code := impl.UnrankSubset(list, k, number); code != want || len(subset) != 0 {
		t.Errorf("UnrankSubset(%v, %d, %d) = %v, code %d, want none, code %d", list, k, number, subset, code, want)
	}
}

func mustBeBinomial(t *testing.T, n, k, want int64) {
	t.Helper()
	if got := impl.Binomial(n, k); got != want {
		t.Errorf("Binomial(%d, %d) = %d, want %d", n, k, got, want)
	}
}

func TestBinomialCoefficients(t *testing.T) {
	triangle := makePascal()
	for n := int64(-1); n <= 53; n++ {
		for k := int64(-1); k <= n+1; k++ {
			switch {
			case n < 0 || n > 52:
				mustBeBinomial(t, n, k, -1)
			case k < 0 || k > n:
				mustBeBinomial(t, n, k, 0)
			default:
				mustBeBinomial(t, n, k, triangle[n][k])
			}
		}
	}
	mustBeBinomial(t, 52, 13, 635013559600)
	mustBeBinomial(t, 52, 26, 495918532948104)
	mustBeBinomial(t, 0, 0, 1)
}

// The same rules, with the function's own results on both sides.
func TestRulesOfBinomialCoefficients(t *testing.T) {
	for n := int64(0); n <= 52; n++ {
		sum := int64(0)
		for k := int64(-1); k <= n+1; k++ {
			sum += impl.Binomial(n, k)
			mustBeBinomial(t, n, n-k, impl.Binomial(n, k))
			if n > 0 {
				mustBeBinomial(t, n, k, impl.Binomial(n-1, k-1)+impl.Binomial(n-1, k))
			}
		}
		if sum != 1<<n {
			t.Errorf("the row %d adds up to %d, want %d", n, sum, int64(1)<<n)
		}
	}
}

// A wrong n comes before a wrong k.
func TestBinomialOutsideTheRange(t *testing.T) {
	for _, n := range outside(53) {
		for _, k := range append(outside(53), 0, 1, 13, 26, 52) {
			mustBeBinomial(t, n, k, -1)
		}
	}
	for n := int64(0); n <= 52; n++ {
		for _, k := range outside(n + 1) {
			if k < 0 || k > n {
				mustBeBinomial(t, n, k, 0)
			}
		}
	}
}

func TestExamplesOfSubsets(t *testing.T) {
	list := []int64{1, 3, 5}
	mustHaveNumber(t, list, []int64{1, 3}, 0)
	mustHaveNumber(t, list, []int64{1, 5}, 1)
	mustHaveNumber(t, list, []int64{3, 5}, 2)
	mustBeNext(t, list, []int64{1, 3}, []int64{1, 5}, impl.ErrNone)
	mustBeNext(t, list, []int64{1, 5}, []int64{3, 5}, impl.ErrNone)
	mustBeNext(t, list, []int64{3, 5}, nil, impl.ErrNotFound)
}

func TestAllSubsetsOfShortLists(t *testing.T) {
	for _, list := range shortCardLists() {
		for k := range len(list) + 1 {
			subsets := subsetsInOrder(list, k)
			if count := impl.Binomial(int64(len(list)), int64(k)); count != int64(len(subsets)) {
				t.Fatalf("%d subsets with %d elements of %v, want %d", len(subsets), k, list, count)
			}
			for number, subset := range subsets {
				mustHaveNumber(t, list, subset, int64(number))
				if number > 0 {
					mustBeNext(t, list, subsets[number-1], subset, impl.ErrNone)
				}
			}
			mustBeNext(t, list, subsets[len(subsets)-1], nil, impl.ErrNotFound)
			for _, number := range noNumbers(int64(len(subsets))) {
				mustNotUnrank(t, list, int64(k), number, impl.ErrNotFound)
			}
		}
	}
}

func TestEmptyListAndEmptySubset(t *testing.T) {
	for _, list := range [][]int64{nil, {}, {0}, {51}, {1, 3, 5}, cardRange(0, 51)} {
		for _, empty := range [][]int64{nil, {}} {
			mustHaveNumber(t, list, empty, 0)
			mustBeNext(t, list, empty, nil, impl.ErrNotFound)
		}
		for _, number := range append(noNumbers(1), 1) {
			mustNotUnrank(t, list, 0, number, impl.ErrNotFound)
		}
		mustHaveNumber(t, list, list, 0)
		mustBeNext(t, list, list, nil, impl.ErrNotFound)
	}
	for _, empty := range [][]int64{nil, {}} {
		mustNotRank(t, empty, []int64{0}, impl.ErrNotFound)
		for _, k := range []int64{-1, 1, math.MinInt64, math.MaxInt64} {
			mustNotUnrank(t, empty, k, 0, impl.ErrRange)
		}
	}
}

func TestSubsetsOfAllCards(t *testing.T) {
	triangle := makePascal()
	all := cardRange(0, 51)
	numbers := numberStream(9)
	for k := range 53 {
		first, last := all[:k], all[52-k:]
		count := triangle[52][k]
		mustHaveNumber(t, all, first, 0)
		mustHaveNumber(t, all, last, count-1)
		mustBeNext(t, all, last, nil, impl.ErrNotFound)
		for _, number := range noNumbers(count) {
			mustNotUnrank(t, all, int64(k), number, impl.ErrNotFound)
		}
		for range 20 {
			subset := numbers.someHand(k)
			number := triangle.numberOf(all, subset)
			mustHaveNumber(t, all, subset, number)
			if number < count-1 {
				next, code := impl.NextSubset(all, subset)
				if code != impl.ErrNone || triangle.numberOf(all, next) != number+1 || !impl.IsHand(next) && k <= 13 {
					t.Fatalf("NextSubset of %v = %v, code %d", subset, next, code)
				}
			}
		}
	}
}

// Lists between a few cards and all of them, and subsets with a quarter, half and three quarters
// of their elements, more or less.
func TestSubsetsOfLongLists(t *testing.T) {
	triangle := makePascal()
	numbers := numberStream(10)
	for size := 11; size <= 52; size++ {
		list := numbers.someHand(size)
		for quarters := range 20 {
			subset := slices.DeleteFunc(slices.Clone(list), func(int64) bool { return numbers.below(4) < quarters%4 })
			mustHaveNumber(t, list, subset, triangle.numberOf(list, subset))
		}
	}
}

// A subset that comes first by its elements has the smaller number.
func TestNumbersFollowTheOrderOfSubsets(t *testing.T) {
	all := cardRange(0, 51)
	numbers := numberStream(11)
	for k := range 53 {
		for range 20 {
			a, b := numbers.someHand(k), numbers.someHand(k)
			numberA, _ := impl.RankSubset(all, a)
			numberB, _ := impl.RankSubset(all, b)
			if order := slices.Compare(a, b); order < 0 != (numberA < numberB) || order > 0 != (numberA > numberB) {
				t.Errorf("%v has the number %d and %v the number %d", a, numberA, b, numberB)
			}
		}
	}
}

// A list that is no card list comes before every other error, whichever of the two it is.
func TestListsThatAreNoCardLists(t *testing.T) {
	for _, wrong := range notCardLists() {
		for _, other := range [][]int64{nil, {0}, {1, 3, 5}, {51}, cardRange(0, 51), {0, 0}, {52}, wrong} {
			mustNotRank(t, wrong, other, impl.ErrInvalid)
			mustNotRank(t, other, wrong, impl.ErrInvalid)
		}
		for _, k := range []int64{0, 1, 2, 52, -1, 53, 1000, math.MinInt64, math.MaxInt64} {
			for _, number := range []int64{0, 1, -1, math.MinInt64, math.MaxInt64} {
				mustNotUnrank(t, wrong, k, number, impl.ErrInvalid)
			}
		}
	}
}

func TestSubsetsWithElementsThatAreNotInTheList(t *testing.T) {
	for _, list := range append(shortCardLists(), cardRange(0, 50), cardRange(1, 51), withoutAll(cardRange(0, 51), []int64{26})) {
		for card := int64(0); card < 52; card++ {
			if slices.Contains(list, card) {
				continue
			}
			mustNotRank(t, list, []int64{card}, impl.ErrNotFound)
			mustNotRank(t, list, sortedWith(list, card), impl.ErrNotFound)
			if len(list) > 0 {
				mustNotRank(t, list, sortedWith(list[:1], card), impl.ErrNotFound)
				mustNotRank(t, list, sortedWith(list[1:], card), impl.ErrNotFound)
			}
		}
	}
}

// A wrong number of elements comes before a number that no subset has.
func TestSubsetsOfTooManyOrTooFewElements(t *testing.T) {
	for _, list := range append(shortCardLists(), cardRange(0, 50), cardRange(0, 51)) {
		size := int64(len(list))
		for _, k := range append(outside(size+1), -1, size+1) {
			if k >= 0 && k <= size {
				continue
			}
			for _, number := range []int64{0, 1, -1, math.MinInt64, math.MaxInt64} {
				mustNotUnrank(t, list, k, number, impl.ErrRange)
			}
		}
	}
}

func mustBeHandWithNumber(t *testing.T, hand []int64, number int64) {
	t.Helper()
	if got := impl.HandNumber(hand); got != number {
		t.Errorf("HandNumber(%v) = %d, want %d", hand, got, number)
	}
	if got, code := impl.HandOfNumber(int64(len(hand)), number); code != impl.ErrNone || !slices.Equal(got, hand) {
		t.Errorf("HandOfNumber(%d, %d) = %v, code %d, want %v", len(hand), number, got, code, hand)
	}
}

func TestHandsAndTheirNumbers(t *testing.T) {
	triangle := makePascal()
	all := cardRange(0, 51)
	for _, hand := range manyHands() {
		mustBeHandWithNumber(t, hand, triangle.numberOf(all, hand))
	}
	mustBeHandWithNumber(t, cardRange(0, 12), 0)
	mustBeHandWithNumber(t, cardRange(39, 51), 635013559599)
	mustBeHandWithNumber(t, nil, 0)
	for card := int64(0); card < 52; card++ {
		mustBeHandWithNumber(t, []int64{card}, card)
	}
}

func TestFirstAndLastHands(t *testing.T) {
	triangle := makePascal()
	for n := int64(0); n <= 13; n++ {
		mustBeHandWithNumber(t, cardRange(0, n-1), 0)
		mustBeHandWithNumber(t, cardRange(52-n, 51), triangle[52][n]-1)
		for _, number := range noNumbers(triangle[52][n]) {
			if hand, code := impl.HandOfNumber(n, number); code != impl.ErrNotFound || len(hand) != 0 {
				t.Errorf("HandOfNumber(%d, %d) = %v, code %d", n, number, hand, code)
			}
		}
	}
}

// All hands of up to three cards, and numbers all over the hands of each size.
func TestNumbersAndTheirHands(t *testing.T) {
	triangle := makePascal()
	check := func(n, number int64) {
		hand, code := impl.HandOfNumber(n, number)
		if code != impl.ErrNone || !impl.IsHand(hand) || int64(len(hand)) != n || impl.HandNumber(hand) != number {
			t.Fatalf("HandOfNumber(%d, %d) = %v, code %d", n, number, hand, code)
		}
	}
	for n := int64(0); n <= 3; n++ {
		for number := range triangle[52][n] {
			check(n, number)
		}
	}
	for n := int64(4); n <= 13; n++ {
		for number := int64(0); number < triangle[52][n]; number += triangle[52][n]/500 + 1 {
			check(n, number)
		}
	}
}

func TestNumbersOfListsThatAreNoHands(t *testing.T) {
	for _, list := range notHands() {
		if number := impl.HandNumber(list); number != -1 {
			t.Errorf("HandNumber(%v) = %d, want -1", list, number)
		}
	}
	for _, n := range append(outside(14), 14, 15, 39, 52, 53) {
		for _, number := range []int64{0, 1, -1, math.MinInt64, math.MaxInt64} {
			if hand, code := impl.HandOfNumber(n, number); code != impl.ErrRange || len(hand) != 0 {
				t.Errorf("HandOfNumber(%d, %d) = %v, code %d, want none, code %d", n, number, hand, code, impl.ErrRange)
			}
		}
	}
}

func mustBeDealWithNumbers(t *testing.T, d impl.Deal, numbers []int64) {
	t.Helper()
	if got, ok := impl.DealNumbers(d); !ok || !slices.Equal(got, numbers) {
		t.Fatalf("DealNumbers(%v) = %v, %v, want %v", d, got, ok, numbers)
	}
	cards := slices.Sorted(slices.Values(slices.Concat(d.Hands...)))
	got := mustSucceed(t, "DealOfNumbers")(impl.DealOfNumbers(cards, numbers))
	mustBeDeal(t, "DealOfNumbers", got, d)
}

func TestDealsAndTheirNumbers(t *testing.T) {
	mustBeDealWithNumbers(t, smallDeal(), []int64{0, 0, 0})
	mustBeDealWithNumbers(t, dealOf([]int64{3}, []int64{0}, []int64{2}, []int64{1}), []int64{3, 0, 1})
	mustBeDealWithNumbers(t, dealOf(nil, nil, nil, nil), []int64{0, 0, 0})
	mustBeDealWithNumbers(t, dealOf(cardRange(0, 12), cardRange(13, 25), cardRange(26, 38), cardRange(39, 51)), []int64{0, 0, 0})
	mustBeDealWithNumbers(t, dealOf(cardRange(39, 51), cardRange(26, 38), cardRange(13, 25), cardRange(0, 12)),
		[]int64{635013559599, 8122425443, 10400599})
	triangle := makePascal()
	for _, d := range someDeals() {
		mustBeDealWithNumbers(t, d, triangle.numbersOf(d))
	}
	numbers := numberStream(12)
	for size := range 14 {
		for range 50 {
			d := numbers.someDeal(size)
			mustBeDealWithNumbers(t, d, triangle.numbersOf(d))
		}
	}
}

// Every deal of four cards and of eight cards, in the order of the numbers.
func TestAllDealsOfShortCardLists(t *testing.T) {
	for _, cards := range [][]int64{nil, {0, 1, 2, 3}, {48, 49, 50, 51}, {0, 12, 13, 51}, cardRange(0, 7), {0, 11, 12, 13, 25, 26, 39, 51}} {
		size := len(cards) / 4
		count := 0
		for n, north := range subsetsInOrder(cards, size) {
			afterNorth := withoutAll(cards, north)
			for e, east := range subsetsInOrder(afterNorth, size) {
				afterEast := withoutAll(afterNorth, east)
				for s, south := range subsetsInOrder(afterEast, size) {
					d := dealOf(north, east, south, withoutAll(afterEast, south))
					mustBeDealWithNumbers(t, d, []int64{int64(n), int64(e), int64(s)})
					count++
				}
			}
		}
		if want := map[int]int{0: 1, 1: 24, 2: 2520}[size]; count != want {
			t.Errorf("%d deals of %v, want %d", count, cards, want)
		}
	}
}

func mustNotDeal(t *testing.T, cards, numbers []int64, want int64) {
	t.Helper()
	d, code := impl.DealOfNumbers(cards, numbers)
	if code != want || len(d.Hands) != 0 {
		t.Errorf("DealOfNumbers(%v, %v) = %v, code %d, want none, code %d", cards, numbers, d, code, want)
	}
}

func TestNumbersOfValuesThatAreNoDeals(t *testing.T) {
	for _, d := range notDeals() {
		if numbers, ok := impl.DealNumbers(d); ok || len(numbers) != 0 {
			t.Errorf("DealNumbers(%v) = %v, %v, want none", d, numbers, ok)
		}
	}
}

// Each of the three numbers is tried alone beside the least and the greatest others.
func TestNumbersThatNoDealHas(t *testing.T) {
	triangle := makePascal()
	for size := 0; size <= 13; size++ {
		counts := []int64{triangle[4*size][size], triangle[3*size][size], triangle[2*size][size]}
		for _, cards := range [][]int64{cardRange(0, int64(4*size)-1), cardRange(52-int64(4*size), 51)} {
			greatest := []int64{counts[0] - 1, counts[1] - 1, counts[2] - 1}
			for _, good := range [][]int64{{0, 0, 0}, greatest} {
				mustSucceed(t, "DealOfNumbers")(impl.DealOfNumbers(cards, good))
				for place, count := range counts {
					for _, number := range noNumbers(count) {
						numbers := slices.Clone(good)
						numbers[place] = number
						mustNotDeal(t, cards, numbers, impl.ErrNotFound)
					}
				}
			}
		}
	}
}

// notThreeNumbers lists lists of numbers that have too few or too many elements.
func notThreeNumbers() [][]int64 {
	return [][]int64{
		nil, {}, {0}, {0, 0}, {0, 0, 0, 0}, {-1, -1}, {math.MaxInt64, 0, 0, 0}, {0, 0, 0, math.MinInt64}, make([]int64, 1000),
	}
}

func TestDealsOfWrongNumbersOfElements(t *testing.T) {
	for size := int64(0); size <= 52; size++ {
		cards := cardRange(0, size-1)
		for _, numbers := range notThreeNumbers() {
			mustNotDeal(t, cards, numbers, impl.ErrRange)
		}
		if size%4 == 0 {
			continue
		}
		for _, numbers := range [][]int64{{0, 0, 0}, {-1, 0, 0}, {0, 0, math.MaxInt64}} {
			mustNotDeal(t, cards, numbers, impl.ErrRange)
		}
	}
}

func TestDealsOfListsThatAreNoCardLists(t *testing.T) {
	for _, cards := range notCardLists() {
		for _, numbers := range append(notThreeNumbers(), []int64{0, 0, 0}, []int64{-1, 0, 0}, []int64{0, 0, math.MaxInt64}) {
			mustNotDeal(t, cards, numbers, impl.ErrInvalid)
		}
	}
}

// firstOf drops the code of a call.
func firstOf(list []int64, _ int64) []int64 { return list }

func TestMemoryOfSubsets(t *testing.T) {
	lists := append(shortCardLists(), cardRange(0, 51), cardRange(0, 52), []int64{1, 1}, []int64{2, 1}, []int64{-1})
	for _, list := range lists {
		for _, k := range []int64{-1, 0, 1, 2, int64(len(list)) / 2, int64(len(list)), int64(len(list)) + 1} {
			for _, number := range []int64{0, 1, 3, -1} {
				checkMemory(t, "UnrankSubset", list, func(list []int64) []int64 { return firstOf(impl.UnrankSubset(list, k, number)) })
			}
		}
		for _, subset := range [][]int64{nil, list, list[:len(list)/2], list[len(list)/2:], list[min(len(list), 1):], {7}, {7, 7}} {
			checkMemory(t, "the list of RankSubset and NextSubset", list, func(list []int64) []int64 {
				impl.RankSubset(list, subset)
				return firstOf(impl.NextSubset(list, subset))
			})
			checkMemory(t, "the subset of RankSubset and NextSubset", subset, func(subset []int64) []int64 {
				impl.RankSubset(list, subset)
				return firstOf(impl.NextSubset(list, subset))
			})
		}
	}
}

func TestMemoryOfNumbersOfHands(t *testing.T) {
	for _, list := range append(someHands(), notHands()...) {
		checkMemory(t, "HandNumber and HandOfNumber", list, func(hand []int64) []int64 {
			return firstOf(impl.HandOfNumber(int64(len(hand)), impl.HandNumber(hand)))
		})
	}
}

func TestMemoryOfNumbersOfDeals(t *testing.T) {
	for _, d := range dealsForMemory() {
		checkDealMemory(t, "DealNumbers", d, func(d impl.Deal) [][]int64 {
			numbers, _ := impl.DealNumbers(d)
			return [][]int64{numbers}
		})
		cards := impl.CardsOfDeal(d)
		numbers, _ := impl.DealNumbers(d)
		checkDealMemory(t, "the lists of DealOfNumbers", dealOf(cards, numbers), func(lists impl.Deal) [][]int64 {
			return handsOf(impl.DealOfNumbers(lists.Hands[0], lists.Hands[1]))
		})
	}
	for _, lists := range []impl.Deal{
		dealOf([]int64{0, 1, 2, 3}, []int64{0, 0, 2}), dealOf([]int64{0, 1, 2, 3}, []int64{0, 0}),
		dealOf([]int64{0, 1, 2}, []int64{0, 0, 0}), dealOf([]int64{0, 0, 1, 2}, []int64{0, 0, 0}),
	} {
		checkDealMemory(t, "DealOfNumbers with an error", lists, func(lists impl.Deal) [][]int64 {
			return handsOf(impl.DealOfNumbers(lists.Hands[0], lists.Hands[1]))
		})
	}
}
