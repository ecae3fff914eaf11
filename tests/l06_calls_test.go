package tests

import (
	"slices"
	"strings"
	"testing"

	"loop.example/g00854/impl"
)

// The signatures of chapter 6.
var (
	_ func(int64) bool           = impl.IsCall
	_ func(int64) int64          = impl.LevelOf
	_ func(int64) int64          = impl.StrainOf
	_ func(int64, int64) int64   = impl.BidOf
	_ func(int64, int64) int64   = impl.LowestBid
	_ func(int64, int64) bool    = impl.IsJump
	_ func(int64) string         = impl.CallText
	_ func(string) (int64, bool) = impl.ReadCall
)

// callTexts lists the texts of the calls by their numbers, written out so that the tests do not
// follow the program's own rule.
var callTexts = strings.Fields(`
	P X XX
	1C 1D 1H 1S 1N
	2C 2D 2H 2S 2N
	3C 3D 3H 3S 3N
	4C 4D 4H 4S 4N
	5C 5D 5H 5S 5N
	6C 6D 6H 6S 6N
	7C 7D 7H 7S 7N`)

// callKind is what the tests know of a call: a call that is no bid has the level 0 and the strain
// -1, like a number that is no call.
type callKind struct {
	call   int64
	level  int64
	strain int64
}

// callKinds lists the calls in the order of their numbers, with the levels and strains counted up.
func callKinds() []callKind {
	kinds := []callKind{{0, 0, -1}, {1, 0, -1}, {2, 0, -1}}
	for level := int64(1); level <= 7; level++ {
		for strain := int64(0); strain <= 4; strain++ {
			kinds = append(kinds, callKind{int64(len(kinds)), level, strain})
		}
	}
	return kinds
}

func allBids() []callKind { return callKinds()[3:] }

// lowestAbove searches through all bids, of which the lower ones come first, for one that is higher
// than a number.
func lowestAbove(number, strain int64) int64 {
	for _, bid := range allBids() {
		if bid.call > number && bid.strain == strain {
			return bid.call
		}
	}
	return -1
}

// isJump follows the words of the document for two bids.
func isJump(before, after callKind) bool {
	aLowerOneWouldDo := slices.ContainsFunc(allBids(), func(bid callKind) bool {
		return bid.strain == after.strain && bid.call < after.call && bid.call > before.call
	})
	return after.call > before.call && aLowerOneWouldDo
}

// numbersNearCalls lists the calls and numbers that are none, among them the ends of int64 and
// numbers that a narrower integer type would take for calls.
func numbersNearCalls() []int64 { return append(cardRange(-60, 100), outside(38)...) }

// aroundRange lists levels or strains: all of a range, and then numbers that are outside of it.
func aroundRange(first, last int64) []int64 {
	far := slices.Concat(outside(8), outside(5), outside(35))
	far = slices.DeleteFunc(far, func(n int64) bool { return n >= first && n <= last })
	return append(cardRange(first, last), far...)
}

func TestConstantsOfCalls(t *testing.T) {
	got := []int64{impl.CallPass, impl.CallDouble, impl.CallRedouble, impl.NoTrump}
	if want := []int64{0, 1, 2, 4}; !slices.Equal(got, want) {
		t.Fatalf("constants %v, want %v", got, want)
	}
}

func TestPropertiesOfCalls(t *testing.T) {
	kinds := callKinds()
	if len(kinds) != 38 || len(callTexts) != 38 {
		t.Fatalf("the test knows %d calls and %d texts, want 38", len(kinds), len(callTexts))
	}
	for number, kind := range kinds {
		call := int64(number)
		if !impl.IsCall(call) {
			t.Errorf("%d is a call", call)
		}
		if level, strain := impl.LevelOf(call), impl.StrainOf(call); level != kind.level || strain != kind.strain {
			t.Errorf("call %d has level %d and strain %d, want %d and %d", call, level, strain, kind.level, kind.strain)
		}
		if text := impl.CallText(call); text != callTexts[number] {
			t.Errorf("CallText(%d) = %q, want %q", call, text, callTexts[number])
		}
	}
}

func TestNumbersThatAreNoCalls(t *testing.T) {
	for _, number := range numbersNearCalls() {
		if number >= 0 && number <= 37 {
			continue
		}
		if impl.IsCall(number) {
			t.Errorf("%d is not a call", number)
		}
		if level, strain := impl.LevelOf(number), impl.StrainOf(number); level != 0 || strain != -1 {
			t.Errorf("%d has level %d and strain %d, want 0 and -1", number, level, strain)
		}
		if text := impl.CallText(number); text != "" {
			t.Errorf("CallText(%d) = %q, want the empty string", number, text)
		}
	}
}

func TestBidIsRecoveredFromLevelAndStrain(t *testing.T) {
	type pair struct{ level, strain int64 }
	seen := map[pair]int64{}
	for _, bid := range allBids() {
		if got := impl.BidOf(bid.level, bid.strain); got != bid.call {
			t.Errorf("BidOf(%d, %d) = %d, want %d", bid.level, bid.strain, got, bid.call)
		}
		level, strain := impl.LevelOf(bid.call), impl.StrainOf(bid.call)
		if got := impl.BidOf(level, strain); got != bid.call {
			t.Errorf("%d has level %d and strain %d, of which BidOf makes %d", bid.call, level, strain, got)
		}
		if other, is := seen[pair{level, strain}]; is {
			t.Errorf("%d and %d both have level %d and strain %d", other, bid.call, level, strain)
		}
		seen[pair{level, strain}] = bid.call
	}
	if len(seen) != 35 {
		t.Errorf("%d levels and strains of bids, want 35", len(seen))
	}
}

func TestAllLevelsAndStrains(t *testing.T) {
	made := 0
	for _, level := range aroundRange(0, 8) {
		for _, strain := range aroundRange(-1, 5) {
			want := int64(-1)
			if level >= 1 && level <= 7 && strain >= 0 && strain <= 4 {
				want = 3 + 5*(level-1) + strain
				made++
			}
			if got := impl.BidOf(level, strain); got != want {
				t.Errorf("BidOf(%d, %d) = %d, want %d", level, strain, got, want)
			}
		}
	}
	if made != 35 {
		t.Errorf("the test made %d bids, want 35", made)
	}
}

// Of a level and a strain outside their ranges, the formula of the document would make the number
// of another bid.
func TestLevelsAndStrainsThatAddUpToABid(t *testing.T) {
	for level := int64(-50); level <= 50; level++ {
		for strain := int64(-250); strain <= 250; strain++ {
			inRange := level >= 1 && level <= 7 && strain >= 0 && strain <= 4
			if bid := impl.BidOf(level, strain); (bid != -1) != inRange {
				t.Errorf("BidOf(%d, %d) = %d", level, strain, bid)
			}
		}
	}
	// Five times this level wraps around to a small number.
	if bid := impl.BidOf(-3689348814741910322, 0); bid != -1 {
		t.Errorf("a level near the end of int64 makes the bid %d", bid)
	}
}

func TestLowestBids(t *testing.T) {
	for _, call := range numbersNearCalls() {
		for _, strain := range aroundRange(-1, 5) {
			want := int64(-1)
			if call >= 0 && call <= 37 && strain >= 0 && strain <= 4 {
				want = lowestAbove(call, strain)
			}
			if got := impl.LowestBid(call, strain); got != want {
				t.Errorf("LowestBid(%d, %d) = %d, want %d", call, strain, got, want)
			}
		}
	}
}

func TestLowestBidsOfSpecialCalls(t *testing.T) {
	for _, c := range []struct{ call, strain, want int64 }{
		{impl.BidOf(1, 3), 2, impl.BidOf(2, 2)},
		{impl.BidOf(1, 3), 3, impl.BidOf(2, 3)},
		{impl.BidOf(1, 3), 4, impl.BidOf(1, 4)},
		{impl.CallPass, 0, 3}, {impl.CallDouble, 0, 3}, {impl.CallRedouble, 0, 3}, {impl.CallRedouble, 4, 7},
		{impl.BidOf(6, 4), 0, 33}, {impl.BidOf(6, 4), 4, 37},
		{impl.BidOf(7, 0), 0, -1}, {impl.BidOf(7, 0), 1, 34}, {impl.BidOf(7, 3), 4, 37}, {impl.BidOf(7, 3), 3, -1},
		{37, 0, -1}, {37, 4, -1}, {38, 0, -1}, {-1, 0, -1}, {-1, 4, -1}, {0, -1, -1}, {0, 5, -1},
	} {
		if got := impl.LowestBid(c.call, c.strain); got != c.want {
			t.Errorf("LowestBid(%d, %d) = %d, want %d", c.call, c.strain, got, c.want)
		}
	}
}

func mustJump(t *testing.T, before, after int64, want bool) {
	t.Helper()
	if got := impl.IsJump(before, after); got != want {
		t.Errorf("IsJump(%d, %d) = %v, want %v", before, after, got, want)
	}
}

func TestJumpsOfBids(t *testing.T) {
	for _, before := range allBids() {
		for _, after := range allBids() {
			mustJump(t, before.call, after.call, isJump(before, after))
		}
	}
}

func TestJumpsOfOtherNumbers(t *testing.T) {
	isBid := func(number int64) bool { return number >= 3 && number <= 37 }
	for _, before := range numbersNearCalls() {
		for _, after := range numbersNearCalls() {
			if !isBid(before) || !isBid(after) {
				mustJump(t, before, after, false)
			}
		}
	}
}

func TestSpecialJumps(t *testing.T) {
	club := impl.BidOf(1, 0)
	for _, c := range []struct {
		before, after int64
		want          bool
	}{
		{club, impl.BidOf(3, 3), true}, {club, impl.BidOf(2, 3), true}, {club, impl.BidOf(1, 3), false},
		{club, impl.BidOf(2, 0), false}, {club, impl.BidOf(3, 0), true}, {club, club, false},
		{impl.BidOf(1, 3), impl.BidOf(2, 2), false}, {impl.BidOf(1, 3), impl.BidOf(3, 2), true},
		{impl.BidOf(1, 4), impl.BidOf(2, 4), false}, {impl.BidOf(1, 4), impl.BidOf(3, 0), true},
		{impl.BidOf(6, 3), 37, true}, {impl.BidOf(6, 4), 37, false}, {37, 37, false}, {37, club, false},
		{impl.BidOf(3, 3), club, false}, {impl.CallPass, 37, false}, {impl.CallDouble, 37, false},
		{impl.CallRedouble, 37, false}, {-1, 37, false}, {club, impl.CallPass, false}, {club, 38, false},
	} {
		mustJump(t, c.before, c.after, c.want)
	}
}

func TestCallIsRecoveredFromText(t *testing.T) {
	for number, written := range callTexts {
		for _, text := range []string{written, impl.CallText(int64(number))} {
			if call, ok := impl.ReadCall(text); !ok || call != int64(number) {
				t.Errorf("ReadCall(%q) = %d, %v, want %d, true", text, call, ok, number)
			}
		}
	}
}

func mustNotReadCall(t *testing.T, text string) {
	t.Helper()
	if call, ok := impl.ReadCall(text); ok || call != 0 {
		t.Errorf("ReadCall(%q) = %d, %v, want 0, false", text, call, ok)
	}
}

// mustReadOnlyCalls checks all texts that begin with a start and go on with at most a number of
// the letters.
func mustReadOnlyCalls(t *testing.T, start string, letters []byte, most int) {
	t.Helper()
	number := slices.Index(callTexts, start)
	call, ok := impl.ReadCall(start)
	if is := number >= 0; ok != is || call != int64(max(number, 0)) {
		t.Errorf("ReadCall(%q) = %d, %v, want %d, %v", start, call, ok, max(number, 0), is)
	}
	if most == 0 {
		return
	}
	for _, letter := range letters {
		mustReadOnlyCalls(t, start+string([]byte{letter}), letters, most-1)
	}
}

func TestTextsOfAtMostThreeBytes(t *testing.T) {
	mustReadOnlyCalls(t, "", []byte("PXCDHSN12345678pxcdhsnT90 "), 3)
}

func TestAllTextsOfAtMostTwoBytes(t *testing.T) {
	var letters []byte
	for letter := range 256 {
		letters = append(letters, byte(letter))
	}
	mustReadOnlyCalls(t, "", letters, 2)
}

func TestTextsThatAreNoCalls(t *testing.T) {
	for _, text := range []string{
		"", " ", "p", "x", "xx", "Xx", "xX", "XXX", "XXXX", "PP", "PX", "XP", "Pass", "PASS", "pass", "D", "R", "Dbl",
		"0C", "0N", "8C", "8N", "9S", "10C", "01C", "+1C", "-1C", "1.C", "1", "7", "N", "C", "C1", "N7", "S3", "3s", "7n",
		"1NT", "NT", "1T", "3SX", "3SXX", "3S ", " 3S", "3 S", "3S\n", "\n3S", "3S\x00", "\x003S", "3S3S", "P ", " P",
		"P\x00", "X ", " X", "X X", "XX\n", "1♣", "♠", "３S", "Х", "\xff", "\xff\xff", strings.Repeat("X", 1000), strings.Repeat("7N", 1000),
	} {
		mustNotReadCall(t, text)
	}
	for _, text := range callTexts {
		mustNotReadCall(t, strings.ToLower(text))
	}
	for _, strain := range "CDHSN" {
		mustNotReadCall(t, "0"+string(strain))
		mustNotReadCall(t, "8"+string(strain))
		mustNotReadCall(t, string(strain)+"1")
	}
}

func TestTextsOfCallsWithBytesBeforeOrBehind(t *testing.T) {
	for _, text := range callTexts {
		for extra := range 256 {
			one := string([]byte{byte(extra)})
			for _, longer := range []string{one + text, text + one} {
				// Only the two texts of a double and a redouble differ by one byte.
				if longer != "XX" {
					mustNotReadCall(t, longer)
				}
			}
		}
	}
}

func TestNothingIsKeptBetweenCalls(t *testing.T) {
	for range 3 {
		for number, text := range callTexts {
			mustNotReadCall(t, text+"?")
			call, ok := impl.ReadCall(text)
			again, okAgain := impl.ReadCall(text)
			if !ok || !okAgain || call != int64(number) || again != call {
				t.Errorf("ReadCall(%q) = %d, %v and then %d, %v", text, call, ok, again, okAgain)
			}
		}
	}
}
