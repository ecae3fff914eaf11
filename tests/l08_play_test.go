package tests

import (
	"iter"
	"math"
	"slices"
	"strings"
	"testing"

	"loop.example/g00854/impl"
)

// The signatures of chapter 8.
var (
	_                                                      = impl.Play{Strain: int64(0), Leader: int64(0), Cards: []int64(nil)}
	_ func(impl.Play) bool                                 = impl.IsPlainPlay
	_ func(impl.Deal, impl.Play) bool                      = impl.IsPlay
	_ func(impl.Play) []int64                              = impl.TrickLeaders
	_ func(impl.Deal, impl.Play) int64                     = impl.TurnOf
	_ func(impl.Deal, impl.Play) []int64                   = impl.LegalCards
	_ func(impl.Deal, impl.Play, int64) (impl.Play, int64) = impl.AddCard
	_ func(impl.Play) []int64                              = impl.TricksOfSides
	_ func(impl.Deal, impl.Play) [][]int64                 = impl.CardsLeft
	_ func(impl.Play) string                               = impl.PlayText
	_ func(string) (impl.Play, bool)                       = impl.ReadPlay
)

const strainNames = "CDHSN"

func isCardNumber(card int64) bool { return card >= 0 && card <= 51 }

// isPlain compares every two cards.
func isPlain(p impl.Play) bool {
	if p.Strain < 0 || p.Strain > 4 || p.Leader < 0 || p.Leader > 3 || len(p.Cards) > 52 {
		return false
	}
	for place, card := range p.Cards {
		if !isCardNumber(card) || slices.Contains(p.Cards[place+1:], card) {
			return false
		}
	}
	return true
}

func ofSuit(cards []int64, suit int64) []int64 {
	return slices.DeleteFunc(slices.Clone(cards), func(card int64) bool { return card/13 != suit })
}

// winningCard looks for the highest card among the trumps, and then among the suit of the first card.
func winningCard(strain int64, trick []int64) int64 {
	if trumps := ofSuit(trick, strain); len(trumps) > 0 {
		return slices.Max(trumps)
	}
	return slices.Max(ofSuit(trick, trick[0]/13))
}

// leadersOf returns the leaders of all complete tricks of a plain play, and the one of the trick to
// which the next card belongs.
func leadersOf(p impl.Play) []int64 {
	leaders := []int64{p.Leader}
	for trick := range slices.Chunk(p.Cards, 4) {
		if len(trick) == 4 {
			place := slices.Index(trick, winningCard(p.Strain, trick))
			leaders = append(leaders, (leaders[len(leaders)-1]+int64(place))%4)
		}
	}
	return leaders
}

// wonTricks counts the complete tricks of the seats of each side.
func wonTricks(p impl.Play) []int64 {
	winners := leadersOf(p)[1:]
	won := []int64{0, 0}
	for _, seat := range winners {
		if seat == 0 || seat == 2 {
			won[0]++
		} else {
			won[1]++
		}
	}
	return won
}

// record is a plain play that is compared with a deal card by card, each one alone.
type record struct {
	table   holderTable
	play    impl.Play
	leaders []int64
}

func recordOf(d impl.Deal, p impl.Play) record {
	return record{table: tableOf(d), play: p, leaders: leadersOf(p)}
}

// seat returns the seat of a place of the play, also of the place behind the last card.
func (r record) seat(place int) int64 { return (r.leaders[place/4] + int64(place%4)) % 4 }

// allows reports whether the document allows a card at a place, where the cards before are those of
// the play.
func (r record) allows(place int, card int64) bool {
	before := r.play.Cards[:place]
	seat := int(r.seat(place))
	if !isCardNumber(card) || r.table[card] != seat || slices.Contains(before, card) {
		return false
	}
	if place%4 == 0 {
		return true
	}
	led := before[place-place%4] / 13
	if card/13 == led {
		return true
	}
	for held, holder := range r.table {
		if holder == seat && int64(held/13) == led && !slices.Contains(before, int64(held)) {
			return false
		}
	}
	return true
}

// isPlay requires a deal.
func isPlay(d impl.Deal, p impl.Play) bool {
	if !isPlain(p) {
		return false
	}
	r := recordOf(d, p)
	for place, card := range p.Cards {
		if !r.allows(place, card) {
			return false
		}
	}
	return true
}

func (r record) legal() []int64 {
	var list []int64
	for card := int64(0); card <= 51; card++ {
		if r.allows(len(r.play.Cards), card) {
			list = append(list, card)
		}
	}
	return list
}

func (r record) left() [][]int64 {
	for _, card := range r.play.Cards {
		r.table[card] = nobody
	}
	return r.table.deal().Hands
}

func (r record) finished() bool { return len(slices.Concat(r.left()...)) == 0 }

func textOfPlay(p impl.Play) string {
	text := strainNames[p.Strain:p.Strain+1] + seatNames[p.Leader:p.Leader+1] + ":"
	for place, card := range p.Cards {
		text += []string{" ", ".", ".", "."}[place%4] + cardTexts[card]
	}
	return text
}

// readPlay takes a text apart at the places where its parts must stand.
func readPlay(text string) (impl.Play, bool) {
	if len(text) < 3 || len(text)%3 != 0 || text[2] != ':' {
		return impl.Play{}, false
	}
	p := impl.Play{
		Strain: int64(strings.IndexByte(strainNames, text[0])),
		Leader: int64(strings.IndexByte(seatNames, text[1])),
	}
	for start := 3; start < len(text); start += 3 {
		if text[start] != " ..."[(start/3-1)%4] {
			return impl.Play{}, false
		}
		p.Cards = append(p.Cards, int64(slices.Index(cardTexts, text[start+1:start+3])))
	}
	if !isPlain(p) {
		return impl.Play{}, false
	}
	return p, true
}

func samePlay(p, q impl.Play) bool {
	return p.Strain == q.Strain && p.Leader == q.Leader && slices.Equal(p.Cards, q.Cards)
}

func isZeroPlay(p impl.Play) bool { return p.Strain == 0 && p.Leader == 0 && len(p.Cards) == 0 }

// playOf returns a play with the strain and the leader of another one.
func playOf(p impl.Play, cards []int64) impl.Play {
	return impl.Play{Strain: p.Strain, Leader: p.Leader, Cards: cards}
}

func playWith(p impl.Play, cards ...int64) impl.Play { return playOf(p, slices.Concat(p.Cards, cards)) }

func playUpTo(p impl.Play, length int) impl.Play { return playOf(p, p.Cards[:length]) }

// cardsNamed reads cards that are written with spaces between them, without the program.
func cardsNamed(t *testing.T, text string) []int64 {
	t.Helper()
	var cards []int64
	for _, word := range strings.Fields(text) {
		card := slices.Index(cardTexts, word)
		if card < 0 {
			t.Fatalf("the test has no card %q", word)
		}
		cards = append(cards, int64(card))
	}
	return cards
}

func dealNamed(t *testing.T, hands ...string) impl.Deal {
	t.Helper()
	var d impl.Deal
	for _, hand := range hands {
		d.Hands = append(d.Hands, slices.Sorted(slices.Values(cardsNamed(t, hand))))
	}
	return d
}

// mustHaveTricks compares what the program says of a play without a deal with the definitions.
func mustHaveTricks(t *testing.T, p impl.Play) {
	t.Helper()
	is := isPlain(p)
	var leaders, won []int64
	if is {
		leaders, won = leadersOf(p), wonTricks(p)
	}
	if got := impl.IsPlainPlay(p); got != is {
		t.Fatalf("IsPlainPlay(%v) = %v, want %v", p, got, is)
	}
	if got := impl.TrickLeaders(p); !slices.Equal(got, leaders) {
		t.Fatalf("TrickLeaders(%v) = %v, want %v", p, got, leaders)
	}
	if got := impl.TricksOfSides(p); !slices.Equal(got, won) {
		t.Fatalf("TricksOfSides(%v) = %v, want %v", p, got, won)
	}
}

// mustStand compares what the program says of a deal and a play, but for additions, with the
// definitions.
func mustStand(t *testing.T, d impl.Deal, p impl.Play) {
	t.Helper()
	is := isPlay(d, p)
	turn := int64(-1)
	var legal []int64
	var left [][]int64
	if is {
		r := recordOf(d, p)
		left = r.left()
		if !r.finished() {
			turn, legal = r.seat(len(p.Cards)), r.legal()
		}
	}
	if got := impl.IsPlay(d, p); got != is {
		t.Fatalf("IsPlay(%v, %v) = %v, want %v", d, p, got, is)
	}
	if got := impl.TurnOf(d, p); got != turn {
		t.Fatalf("TurnOf(%v, %v) = %d, want %d", d, p, got, turn)
	}
	if got := impl.LegalCards(d, p); !slices.Equal(got, legal) {
		t.Fatalf("LegalCards(%v, %v) = %v, want %v", d, p, got, legal)
	}
	if got := impl.CardsLeft(d, p); !sameLists(got, left) {
		t.Fatalf("CardsLeft(%v, %v) = %v, want %v", d, p, got, left)
	}
}

// mustAddCard compares an addition with the definitions.
func mustAddCard(t *testing.T, d impl.Deal, p impl.Play, card int64) {
	t.Helper()
	var want impl.Play
	var wantCode int64
	switch {
	case !isPlay(d, p):
		wantCode = impl.ErrInvalid
	case recordOf(d, p).finished():
		wantCode = impl.ErrState
	case !recordOf(d, p).allows(len(p.Cards), card):
		wantCode = impl.ErrRange
	default:
		want = playWith(p, card)
	}
	got, code := impl.AddCard(d, p, card)
	if !samePlay(got, want) || code != wantCode {
		t.Fatalf("AddCard(%v, %v, %d) = %v, %d, want %v, %d", d, p, card, got, code, want, wantCode)
	}
}

// mustHaveTextOfPlay compares the text of a play with the definition, and reads it again.
func mustHaveTextOfPlay(t *testing.T, p impl.Play) {
	t.Helper()
	text := impl.PlayText(p)
	if !isPlain(p) {
		if text != "" {
			t.Fatalf("PlayText(%v) = %q, want the empty string", p, text)
		}
		return
	}
	if want := textOfPlay(p); text != want {
		t.Fatalf("PlayText(%v) = %q, want %q", p, text, want)
	}
	if again, ok := impl.ReadPlay(text); !ok || !samePlay(again, p) {
		t.Fatalf("ReadPlay(%q) = %v, %v, want %v", text, again, ok, p)
	}
}

func mustReadPlay(t *testing.T, text string) {
	t.Helper()
	want, wantOK := readPlay(text)
	got, ok := impl.ReadPlay(text)
	if ok != wantOK || !samePlay(got, want) {
		t.Fatalf("ReadPlay(%q) = %v, %v, want %v, %v", text, got, ok, want, wantOK)
	}
}

// mustNotBePlay checks all that the program says of a value that is no play of d, or of a play and
// a value that is no deal.
func mustNotBePlay(t *testing.T, d impl.Deal, p impl.Play) {
	t.Helper()
	if impl.IsPlay(d, p) {
		t.Fatalf("IsPlay(%v, %v) = true", d, p)
	}
	if turn := impl.TurnOf(d, p); turn != -1 {
		t.Fatalf("TurnOf(%v, %v) = %d, want -1", d, p, turn)
	}
	if legal := impl.LegalCards(d, p); len(legal) != 0 {
		t.Fatalf("LegalCards(%v, %v) = %v, want none", d, p, legal)
	}
	if left := impl.CardsLeft(d, p); len(left) != 0 {
		t.Fatalf("CardsLeft(%v, %v) = %v, want nil", d, p, left)
	}
	for _, card := range []int64{-1, 0, 26, 51, 52} {
		if longer, code := impl.AddCard(d, p, card); !isZeroPlay(longer) || code != impl.ErrInvalid {
			t.Fatalf("AddCard(%v, %v, %d) = %v, %d, want ErrInvalid", d, p, card, longer, code)
		}
	}
}

// mustNotBePlain checks all that the program says of a value that is not plain.
func mustNotBePlain(t *testing.T, p impl.Play) {
	t.Helper()
	if impl.IsPlainPlay(p) {
		t.Fatalf("IsPlainPlay(%v) = true", p)
	}
	if leaders := impl.TrickLeaders(p); len(leaders) != 0 {
		t.Fatalf("TrickLeaders(%v) = %v, want nil", p, leaders)
	}
	if won := impl.TricksOfSides(p); len(won) != 0 {
		t.Fatalf("TricksOfSides(%v) = %v, want nil", p, won)
	}
	if text := impl.PlayText(p); text != "" {
		t.Fatalf("PlayText(%v) = %q, want the empty string", p, text)
	}
	for _, d := range []impl.Deal{everyFourthCard(), smallDeal(), dealOf(nil, nil, nil, nil), {}} {
		mustNotBePlay(t, d, p)
	}
}

// somePack returns different cards in any order.
func (n *numberStream) somePack(size int) []int64 {
	pack := cardRange(0, 51)
	for i := range size {
		j := i + n.below(52-i)
		pack[i], pack[j] = pack[j], pack[i]
	}
	return pack[:size]
}

// goOn adds legal cards to a play until it is finished.
func (n *numberStream) goOn(d impl.Deal, p impl.Play) impl.Play {
	for {
		r := recordOf(d, p)
		if r.finished() {
			return p
		}
		legal := r.legal()
		p = playWith(p, legal[n.below(len(legal))])
	}
}

// deskPlay is a deal with a play of it.
type deskPlay struct {
	deal impl.Deal
	play impl.Play
}

// dealsToPlay lists deals of every kind of size: without cards, of one card, several and 13 cards a
// hand; some where every seat can follow for long, and some where no seat can.
func dealsToPlay() []impl.Deal {
	list := []impl.Deal{
		dealOf(nil, nil, nil, nil),
		smallDeal(),
		dealOf([]int64{51}, []int64{38}, []int64{25}, []int64{12}),
		dealOf([]int64{0, 5}, []int64{6, 7}, []int64{8, 9}, []int64{10, 11}),
		dealOf([]int64{0, 51}, []int64{12, 39}, []int64{13, 38}, []int64{25, 26}),
		dealOf(cardRange(0, 12), cardRange(13, 25), cardRange(26, 38), cardRange(39, 51)),
		everyFourthCard(),
	}
	numbers := numberStream(8)
	for _, size := range []int{1, 2, 3, 5, 8, 13} {
		list = append(list, numbers.someDeal(size))
	}
	return list
}

// finishedPlays lists finished plays of all deals, from every leader in every strain.
func finishedPlays() []deskPlay {
	var list []deskPlay
	numbers := numberStream(9)
	for _, d := range dealsToPlay() {
		for strain := range int64(5) {
			for leader := range int64(4) {
				p := numbers.goOn(d, impl.Play{Strain: strain, Leader: leader})
				list = append(list, deskPlay{deal: d, play: p})
			}
		}
	}
	return list
}

func TestExamplesOfPlays(t *testing.T) {
	for _, d := range dealsToPlay() {
		if !impl.IsPlay(d, impl.Play{}) || !impl.IsPlay(d, impl.Play{Strain: 4, Leader: 3, Cards: []int64{}}) {
			t.Errorf("a play without cards is one of %v", d)
		}
	}
	for leader := range int64(4) {
		p := impl.Play{Strain: 4, Leader: leader}
		if leaders := impl.TrickLeaders(p); !slices.Equal(leaders, []int64{leader}) {
			t.Errorf("TrickLeaders(%v) = %v", p, leaders)
		}
		if won := impl.TricksOfSides(p); !slices.Equal(won, []int64{0, 0}) {
			t.Errorf("TricksOfSides(%v) = %v", p, won)
		}
	}
	if text := impl.PlayText(impl.Play{Strain: 4, Leader: 3, Cards: []int64{51, 39}}); text != "NW: SA.S2" {
		t.Errorf("the text of two cards is %q", text)
	}
}

// writtenTricks are tricks that North leads, with the seat that wins them.
var writtenTricks = []struct {
	strain int64
	trick  string
	winner int64
}{
	{4, "S2 S3 S4 S5", 3}, {4, "S2 SA SK SQ", 1}, {4, "SA S2 SK SQ", 0}, {4, "S2 S3 SA SQ", 2}, {4, "DT D9 DJ D8", 2},
	{4, "S2 HA DA CA", 0}, {4, "C2 DA HA SA", 0}, {4, "C2 C3 HA SA", 1}, {4, "C2 HA C4 C3", 2}, {4, "H2 S3 H4 SA", 2},
	{3, "S2 HA DA CA", 0}, {3, "HA S2 HK HQ", 1}, {3, "HA HK HQ S2", 3}, {3, "HA S3 S2 HK", 1}, {3, "HA S2 S3 HK", 2},
	{3, "HA S2 HK S3", 3}, {3, "S3 HA S2 DA", 0}, {3, "S3 HA S4 DA", 2}, {3, "S4 S2 SA S3", 2}, {3, "CA S2 S3 S4", 3},
	{2, "S2 H2 SA SK", 1}, {2, "SA H2 H3 SK", 2}, {2, "SA H3 H2 SK", 1}, {2, "H2 SA H3 DA", 2}, {2, "SA SK HA H2", 2},
	{2, "H2 SA DA CA", 0}, {2, "C2 SA D3 H2", 3}, {1, "C2 C3 SA C4", 3}, {1, "SA SK D2 HA", 2}, {1, "D2 SA HA CA", 0},
	{0, "DA C2 DK DQ", 1}, {0, "CA C2 C3 C4", 0}, {0, "D2 SA HA C2", 3}, {0, "D2 SA HA SK", 0}, {0, "D2 SA D3 HK", 2},
}

func TestWrittenTricks(t *testing.T) {
	for _, written := range writtenTricks {
		for leader := range int64(4) {
			p := impl.Play{Strain: written.strain, Leader: leader, Cards: cardsNamed(t, written.trick)}
			winner := (written.winner + leader) % 4
			if leaders := impl.TrickLeaders(p); !slices.Equal(leaders, []int64{leader, winner}) {
				t.Errorf("TrickLeaders of %v: %s from %d is %v, want the winner %d", written.strain, written.trick, leader, leaders, winner)
			}
			want := []int64{1, 0}
			if winner%2 == 1 {
				want = []int64{0, 1}
			}
			if won := impl.TricksOfSides(p); !slices.Equal(won, want) {
				t.Errorf("TricksOfSides of %v: %s from %d is %v, want %v", written.strain, written.trick, leader, won, want)
			}
			mustHaveTricks(t, p)
		}
	}
}

func TestAllTricksOfSomeCards(t *testing.T) {
	cards := cardsNamed(t, "C2 CT CA D3 DK H2 H9 HA S4 S5 SA")
	for strain := range int64(5) {
		for _, a := range cards {
			for _, b := range cards {
				for _, c := range cards {
					for _, d := range cards {
						mustHaveTricks(t, impl.Play{Strain: strain, Leader: (a + b) % 4, Cards: []int64{a, b, c, d}})
					}
				}
			}
		}
	}
}

func TestTricksOfAllLengths(t *testing.T) {
	numbers := numberStream(10)
	for strain := range int64(5) {
		for leader := range int64(4) {
			whole := impl.Play{Strain: strain, Leader: leader, Cards: numbers.somePack(52)}
			for length := range 53 {
				p := playUpTo(whole, length)
				mustHaveTricks(t, p)
				mustHaveTextOfPlay(t, p)
				if got, want := len(impl.TrickLeaders(p)), length/4+1; got != want {
					t.Fatalf("TrickLeaders(%v) has %d elements, want %d", p, got, want)
				}
			}
		}
	}
}

func TestNextTrickIsLedByTheWinner(t *testing.T) {
	for _, desk := range finishedPlays() {
		leaders := impl.TrickLeaders(desk.play)
		for place := 0; place < len(desk.play.Cards); place += 4 {
			alone := impl.Play{Strain: desk.play.Strain, Leader: leaders[place/4], Cards: desk.play.Cards[place : place+4]}
			if one := impl.TrickLeaders(alone); len(one) != 2 || one[1] != leaders[place/4+1] {
				t.Fatalf("the trick %v has the leader and winner %v, and the leaders of %v are %v", alone, one, desk.play, leaders)
			}
		}
	}
}

func TestStrainsAndLeadersAroundTheirRanges(t *testing.T) {
	ends := []int64{math.MinInt64, math.MaxInt64}
	for _, strain := range append(cardRange(-3, 8), ends...) {
		for _, leader := range append(cardRange(-3, 7), ends...) {
			for _, cards := range [][]int64{nil, {0}, {51, 39, 0, 26}, {0, 13, 26, 39, 1}} {
				p := impl.Play{Strain: strain, Leader: leader, Cards: cards}
				mustHaveTricks(t, p)
				mustHaveTextOfPlay(t, p)
			}
		}
	}
	for _, strain := range outside(5) {
		mustNotBePlain(t, impl.Play{Strain: strain})
		mustNotBePlain(t, impl.Play{Strain: strain, Leader: 2, Cards: []int64{2}})
	}
	for _, leader := range outside(4) {
		mustNotBePlain(t, impl.Play{Leader: leader})
		mustNotBePlain(t, impl.Play{Strain: 4, Leader: leader, Cards: []int64{0, 1, 2, 3}})
	}
}

func TestCardsThatAreNotPlain(t *testing.T) {
	numbers := numberStream(11)
	for _, size := range []int{1, 2, 4, 5, 13, 51, 52} {
		pack := numbers.somePack(size)
		for place := range size {
			changed := slices.Clone(pack)
			for other := range place {
				changed[place] = pack[other]
				mustNotBePlain(t, impl.Play{Strain: 4, Cards: changed})
			}
			for _, number := range []int64{-1, 52, math.MinInt64, math.MaxInt64} {
				changed[place] = number
				mustNotBePlain(t, impl.Play{Strain: 4, Cards: changed})
			}
		}
	}
	for _, number := range outside(52) {
		mustNotBePlain(t, impl.Play{Cards: []int64{number}})
		mustNotBePlain(t, impl.Play{Cards: []int64{0, 1, 2, 3, number}})
	}
	mustNotBePlain(t, impl.Play{Cards: []int64{1, 1}})
	mustNotBePlain(t, impl.Play{Cards: []int64{7, 8, 9, 10, 11, 12, 7}})
}

func TestManyCards(t *testing.T) {
	all := impl.Play{Strain: 2, Leader: 1, Cards: cardRange(0, 51)}
	if !impl.IsPlainPlay(all) {
		t.Error("52 cards are plain")
	}
	for card := int64(-1); card <= 52; card++ {
		mustNotBePlain(t, playWith(all, card))
		mustNotBePlain(t, playWith(impl.Play{Cards: []int64{card}}, all.Cards...))
	}
	mustNotBePlain(t, playWith(all, all.Cards...))
	mustNotBePlain(t, impl.Play{Cards: make([]int64, 52)})
	mustNotBePlain(t, impl.Play{Cards: make([]int64, 2000)})
	mustNotBePlain(t, impl.Play{Cards: cardRange(0, 2000)})
}

// writtenDeal is the deal of writtenPlays.
func writtenDeal(t *testing.T) impl.Deal {
	return dealNamed(t, "SA H4 H2", "SK H3 D2", "S2 S3 HA", "CA C2 DA")
}

// writtenPlays are written with what they come to: the letter of the seat whose turn it is with the
// cards that it can play, the tricks of both sides after a finished play, or "!" for no play.
var writtenPlays = []struct {
	strain, leader int64
	cards          string
	result         string
}{
	{4, 0, "", "N H2 H4 SA"}, {4, 1, "", "E D2 H3 SK"}, {4, 2, "", "S HA S2 S3"}, {0, 3, "", "W C2 CA DA"},
	{4, 0, "H2", "E H3"}, {4, 0, "H2 H3", "S HA"}, {4, 0, "H2 H3 HA", "W C2 CA DA"}, {4, 0, "SA", "E SK"}, {4, 0, "SA SK", "S S2 S3"},
	{5, 0, "", "!"}, {-1, 0, "", "!"}, {4, 4, "", "!"}, {4, -1, "", "!"},
	// Cards of another seat, of nobody, and cards that were played before.
	{4, 0, "H3", "!"}, {4, 1, "H2", "!"}, {4, 0, "C2", "!"}, {4, 0, "H2 HA", "!"}, {4, 0, "H2 H4", "!"}, {4, 0, "H2 H3 H4", "!"},
	{4, 0, "H5", "!"}, {4, 0, "H2 H5", "!"}, {4, 0, "H2 H3 HA D3", "!"}, {4, 0, "H2 H2", "!"}, {4, 0, "H2 H3 H3", "!"},
	{4, 0, "H2 H3 HA DA S2 DA", "!"}, {4, 0, "H2 H3 HA DA HA", "!"}, {4, 0, "H2 H3 HA DA H4", "!"}, {4, 0, "H2 H3 HA DA D2", "!"},
	// Revokes.
	{4, 0, "H2 SK", "!"}, {4, 0, "H2 D2", "!"}, {4, 0, "H2 H3 S2", "!"}, {3, 0, "H2 H3 S2", "!"}, {3, 0, "H2 SK", "!"}, {4, 0, "SA H3", "!"},
	{4, 0, "H2 H3 HA CA S2 C2 H4", "!"}, {4, 0, "H2 H3 HA CA S2 C2 SA D2", "!"}, {4, 3, "CA H2 H3 HA DA H4 SK", "!"},
	{4, 3, "DA H2 SK", "!"}, {4, 3, "DA H2 H3", "!"},
	// Seats that have no card of the suit that was led. When H4 is led, East has played its only heart.
	{4, 0, "H2 H3 HA CA", "S S2 S3"}, {4, 0, "H2 H3 HA CA S2", "W C2 DA"}, {4, 0, "H2 H3 HA CA S2 C2", "N SA"},
	{4, 0, "H2 H3 HA CA S2 C2 SA", "E SK"}, {4, 0, "H2 H3 HA CA S2 C2 SA SK", "N H4"}, {4, 0, "H2 H3 HA CA S2 C2 SA SK H4", "E D2"},
	{4, 3, "CA", "N H2 H4 SA"}, {4, 3, "CA H2", "E D2 H3 SK"}, {4, 3, "CA H2 H3 HA", "W C2 DA"}, {4, 3, "CA H2 H3 HA DA H4", "E D2"},
	{4, 3, "CA H2 D2 HA DA H4", "E H3 SK"}, {4, 0, "H2 H3 HA CA S2 C2 SA SK H4 D2 S3", "W DA"},
	// Finished plays, and cards behind the end.
	{4, 0, "H2 H3 HA CA S2 C2 SA SK H4 D2 S3 DA", "3-0"}, {0, 0, "H2 H3 HA C2 CA SA SK S2 DA H4 D2 S3", "0-3"},
	{1, 0, "H2 H3 HA CA S2 C2 SA SK H4 D2 S3 DA", "2-1"}, {3, 0, "H2 H3 HA CA S2 C2 SA SK H4 D2 S3 DA", "3-0"},
	{4, 3, "CA H2 SK S2 C2 H4 D2 S3 DA SA H3 HA", "0-3"}, {3, 3, "CA H2 SK S2 H3 HA DA H4 S3 C2 SA D2", "2-1"},
	{4, 0, "H2 H3 HA CA S2 C2 SA SK H4 D2 S3 DA C3", "!"}, {4, 0, "H2 H3 HA CA S2 C2 SA SK H4 D2 S3 DA H2", "!"},
	{4, 0, "H2 H3 HA CA S2 C2 SA SK H4 D2 S3 DA C3 C4 C5 C6", "!"}, {4, 0, "H2 H3 HA CA S2 C2 SA SK H4 D2 DA S3", "!"},
}

// resultOf writes what the program says of a play in the way of writtenPlays.
func resultOf(d impl.Deal, p impl.Play) string {
	if !impl.IsPlay(d, p) {
		return "!"
	}
	turn := impl.TurnOf(d, p)
	if turn == -1 {
		won := impl.TricksOfSides(p)
		return string([]byte{'0' + byte(won[0]), '-', '0' + byte(won[1])})
	}
	words := []string{seatNames[turn : turn+1]}
	for _, card := range impl.LegalCards(d, p) {
		words = append(words, cardTexts[card])
	}
	return strings.Join(words, " ")
}

func TestWrittenPlays(t *testing.T) {
	d := writtenDeal(t)
	for _, written := range writtenPlays {
		p := impl.Play{Strain: written.strain, Leader: written.leader, Cards: cardsNamed(t, written.cards)}
		if got := resultOf(d, p); got != written.result {
			t.Errorf("the play %d, %d: %s comes to %q, want %q", written.strain, written.leader, written.cards, got, written.result)
		}
		mustStand(t, d, p)
		for card := int64(-1); card <= 52; card++ {
			mustAddCard(t, d, p, card)
		}
		if written.result == "!" {
			mustNotBePlay(t, d, p)
		}
	}
}

// mustFollowRules checks all lists of cards that begin with a play and go on with at most a number
// of others, whether they are legal or not.
func mustFollowRules(t *testing.T, d impl.Deal, p impl.Play, others []int64, most int) {
	t.Helper()
	mustStand(t, d, p)
	if most == 0 {
		return
	}
	for _, card := range others {
		mustAddCard(t, d, p, card)
		mustFollowRules(t, d, playWith(p, card), others, most-1)
	}
}

func TestAllShortListsOfCards(t *testing.T) {
	d := dealNamed(t, "SA H2", "SK H3", "S2 HA", "CA C2")
	others := append(cardsNamed(t, "SA H2 SK H3 S2 HA CA C2 C3"), 52)
	for strain := range int64(5) {
		mustFollowRules(t, d, impl.Play{Strain: strain, Leader: strain % 4}, others, 3)
		for _, start := range []string{"H2 H3 HA", "SA SK S2 C2", "SA SK S2 C2 H2", "H2 H3 HA CA S2 C2"} {
			mustFollowRules(t, d, impl.Play{Strain: strain, Cards: cardsNamed(t, start)}, others, 2)
		}
	}
	for leader := int64(-1); leader <= 4; leader++ {
		mustFollowRules(t, d, impl.Play{Strain: 4, Leader: leader}, others, 2)
		mustFollowRules(t, smallDeal(), impl.Play{Strain: 0, Leader: leader}, cardRange(-1, 4), 5)
	}
}

// countPlays checks all plays of a deal that the program lets go on, and counts the finished ones.
func countPlays(t *testing.T, d impl.Deal, p impl.Play) int {
	t.Helper()
	mustStand(t, d, p)
	mustHaveTricks(t, p)
	legal := impl.LegalCards(d, p)
	if len(legal) == 0 {
		mustBeFinished(t, d, p)
		return 1
	}
	count := 0
	for _, card := range legal {
		longer, code := impl.AddCard(d, p, card)
		if code != impl.ErrNone {
			t.Fatalf("AddCard(%v, %v, %d) returns the code %d", d, p, card, code)
		}
		count += countPlays(t, d, longer)
	}
	return count
}

// mustBeFinished checks the guarantee of the chapter for a play that does not go on.
func mustBeFinished(t *testing.T, d impl.Deal, p impl.Play) {
	t.Helper()
	size := int64(len(d.Hands[0]))
	if played := slices.Sorted(slices.Values(p.Cards)); !slices.Equal(played, tableOf(d).cards()) {
		t.Fatalf("the play %v of %v ends before all cards have been played", p, d)
	}
	won := impl.TricksOfSides(p)
	if len(won) != 2 || won[0] < 0 || won[1] < 0 || won[0]+won[1] != size {
		t.Fatalf("TricksOfSides(%v) = %v, and there are %d tricks", p, won, size)
	}
	if leaders := impl.TrickLeaders(p); int64(len(leaders)) != size+1 {
		t.Fatalf("TrickLeaders(%v) = %v, and there are %d tricks", p, leaders, size)
	}
	if left := impl.CardsLeft(d, p); !sameLists(left, make([][]int64, 4)) {
		t.Fatalf("CardsLeft(%v, %v) = %v, want four empty hands", d, p, left)
	}
	if turn, legal := impl.TurnOf(d, p), impl.LegalCards(d, p); turn != -1 || len(legal) != 0 || !impl.IsPlay(d, p) {
		t.Fatalf("after the finished play %v of %v it is the turn of %d with %v", p, d, turn, legal)
	}
	for _, card := range []int64{-1, 0, 51, 52} {
		if longer, code := impl.AddCard(d, p, card); !isZeroPlay(longer) || code != impl.ErrState {
			t.Fatalf("AddCard(%v, %v, %d) = %v, %d, want ErrState", d, p, card, longer, code)
		}
	}
}

func (table holderTable) cards() []int64 {
	var list []int64
	for card, seat := range table {
		if seat != nobody {
			list = append(list, int64(card))
		}
	}
	return list
}

func TestAllPlaysOfSmallDeals(t *testing.T) {
	for _, c := range []struct {
		hands []string
		want  int
	}{
		// Where each seat has a suit of its own, or all have one suit, every order can be played.
		{[]string{"", "", "", ""}, 1},
		{[]string{"S2", "HA", "DK", "CQ"}, 1},
		{[]string{"S2 S3", "H2 H3", "D2 D3", "C2 C3"}, 16},
		{[]string{"S2 S6", "S3 S7", "S4 S8", "S5 S9"}, 16},
		{[]string{"S2 S3 S4", "H2 H3 H4", "D2 D3 D4", "C2 C3 C4"}, 1296},
		// Where each seat has one card of two suits, only the leader has a choice.
		{[]string{"S2 H2", "S3 H3", "S4 H4", "S5 H5"}, 2},
		{[]string{"S2 H2 D2", "S3 H3 D3", "S4 H4 D4", "S5 H5 D5"}, 6},
	} {
		for strain := range int64(5) {
			p := impl.Play{Strain: strain, Leader: strain % 4}
			if got := countPlays(t, dealNamed(t, c.hands...), p); got != c.want {
				t.Errorf("the deal %v has %d plays in the strain %d, want %d", c.hands, got, strain, c.want)
			}
		}
	}
	for strain := range int64(5) {
		countPlays(t, writtenDeal(t), impl.Play{Strain: strain, Leader: strain % 4})
	}
}

func TestManyPlays(t *testing.T) {
	followed, discarded := 0, 0
	for _, desk := range finishedPlays() {
		for length := range len(desk.play.Cards) + 1 {
			p := playUpTo(desk.play, length)
			mustStand(t, desk.deal, p)
			mustHaveTricks(t, p)
			mustHaveTextOfPlay(t, p)
		}
		for place, card := range desk.play.Cards {
			if led := desk.play.Cards[place-place%4]; card/13 == led/13 {
				followed++
			} else {
				discarded++
			}
		}
		mustBeFinished(t, desk.deal, desk.play)
	}
	if followed < 1000 || discarded < 1000 {
		t.Fatalf("the test made %d cards that follow suit and %d others", followed, discarded)
	}
}

func TestEveryPlayGoesOnToItsEnd(t *testing.T) {
	numbers := numberStream(12)
	for _, desk := range finishedPlays() {
		all := len(desk.play.Cards)
		p := playUpTo(desk.play, numbers.below(all+1))
		for impl.TurnOf(desk.deal, p) != -1 {
			if len(p.Cards) >= all {
				t.Fatalf("the play %v of %v does not end", p, desk.deal)
			}
			legal := impl.LegalCards(desk.deal, p)
			longer, code := impl.AddCard(desk.deal, p, legal[numbers.below(len(legal))])
			if code != impl.ErrNone || !impl.IsPlay(desk.deal, longer) {
				t.Fatalf("the play %v of %v does not go on with %v", p, desk.deal, legal)
			}
			p = longer
		}
		mustBeFinished(t, desk.deal, p)
	}
}

func TestLegalCardsIncrease(t *testing.T) {
	for _, desk := range finishedPlays() {
		for length := range len(desk.play.Cards) + 1 {
			p := playUpTo(desk.play, length)
			legal := impl.LegalCards(desk.deal, p)
			for i := range legal {
				if i > 0 && legal[i] <= legal[i-1] {
					t.Fatalf("LegalCards(%v, %v) = %v", desk.deal, p, legal)
				}
			}
			if hasTurn := impl.TurnOf(desk.deal, p) != -1; hasTurn != (len(legal) > 0) {
				t.Fatalf("LegalCards(%v, %v) = %v, and the turn is %v", desk.deal, p, legal, hasTurn)
			}
		}
	}
}

func TestExactlyTheLegalCardsCanBeAdded(t *testing.T) {
	for number, desk := range finishedPlays() {
		// Every third play keeps the test short, and still has all strains and leaders.
		if number%3 != 0 {
			continue
		}
		for length := range len(desk.play.Cards) + 1 {
			p := playUpTo(desk.play, length)
			legal := impl.LegalCards(desk.deal, p)
			left := impl.CardsLeft(desk.deal, p)
			turn := impl.TurnOf(desk.deal, p)
			for card := int64(-2); card <= 53; card++ {
				longer, code := impl.AddCard(desk.deal, p, card)
				if is := slices.Contains(legal, card); is != (code == impl.ErrNone) {
					t.Fatalf("AddCard(%v, %v, %d) returns the code %d, and the legal cards are %v", desk.deal, p, card, code, legal)
				}
				if code != impl.ErrNone {
					continue
				}
				less := copyLists(left)
				less[turn] = listWithout(left[turn], card)
				if got := impl.CardsLeft(desk.deal, longer); !samePlay(longer, playWith(p, card)) || !sameLists(got, less) {
					t.Fatalf("AddCard(%v, %v, %d) = %v, which leaves %v, want %v", desk.deal, p, card, longer, got, less)
				}
			}
		}
	}
}

func TestCardsOutsideTheRangeInPlays(t *testing.T) {
	d := writtenDeal(t)
	for _, cards := range []string{"", "H2", "H2 H3 HA CA", "H2 H3 HA CA S2 C2 SA SK H4 D2 S3 DA"} {
		p := impl.Play{Strain: 4, Cards: cardsNamed(t, cards)}
		for _, number := range outside(52) {
			mustAddCard(t, d, p, number)
			mustNotBePlay(t, d, playWith(p, number))
			mustNotBePlay(t, d, playWith(p, number, 1, 2, 3, 4))
		}
	}
}

// withCardsChanged produces a play with two cards that have changed places, with one that is
// replaced, and without one, for each place.
func withCardsChanged(p impl.Play) iter.Seq[impl.Play] {
	return func(yield func(impl.Play) bool) {
		last := len(p.Cards) - 1
		for place, card := range p.Cards {
			var changes []impl.Play
			for _, other := range []int{min(place+1, last), min(place+4, last), last} {
				changed := playWith(p)
				changed.Cards[place], changed.Cards[other] = p.Cards[other], card
				changes = append(changes, changed)
			}
			for _, other := range []int64{-1, 52, 51 - card, p.Cards[0], p.Cards[last]} {
				changed := playWith(p)
				changed.Cards[place] = other
				changes = append(changes, changed)
			}
			changes = append(changes, playWith(playUpTo(p, place), p.Cards[place+1:]...))
			for _, changed := range changes {
				if !yield(changed) {
					return
				}
			}
		}
	}
}

// Two cards of a play that change places, or one that is replaced, seldom leave a play.
func TestPlaysWithCardsChanged(t *testing.T) {
	still, broken := 0, 0
	for number, desk := range finishedPlays() {
		if number%7 != 0 {
			continue
		}
		for p := range withCardsChanged(desk.play) {
			mustStand(t, desk.deal, p)
			if impl.IsPlay(desk.deal, p) {
				still++
			} else {
				broken++
			}
		}
	}
	if still < 100 || broken < 1000 {
		t.Fatalf("the test made %d plays and %d other lists", still, broken)
	}
}

func TestOtherStrainsAndLeadersOfPlays(t *testing.T) {
	for number, desk := range finishedPlays() {
		if number%5 != 0 {
			continue
		}
		for strain := int64(-1); strain <= 5; strain++ {
			for leader := int64(-1); leader <= 4; leader++ {
				for _, length := range []int{0, 1, 4, 5, 9, len(desk.play.Cards)} {
					cards := desk.play.Cards[:min(length, len(desk.play.Cards))]
					mustStand(t, desk.deal, impl.Play{Strain: strain, Leader: leader, Cards: cards})
				}
			}
		}
	}
}

// Cards that belong to nobody, and cards of another deal, make no play.
func TestPlaysOfOtherDeals(t *testing.T) {
	plays := finishedPlays()
	for _, d := range dealsToPlay() {
		for number, desk := range plays {
			if number%11 == 0 {
				for _, length := range []int{1, 2, 4, 5, len(desk.play.Cards)} {
					mustStand(t, d, playUpTo(desk.play, min(length, len(desk.play.Cards))))
				}
			}
		}
	}
}

func TestPlaysOfValuesThatAreNoDeals(t *testing.T) {
	for _, d := range notDeals() {
		mustNotBePlay(t, d, impl.Play{})
		mustNotBePlay(t, d, impl.Play{Strain: 4, Leader: 3})
		mustNotBePlay(t, d, impl.Play{Strain: -1, Cards: []int64{52}})
		if len(d.Hands) > 0 && len(d.Hands[0]) > 0 {
			mustNotBePlay(t, d, impl.Play{Strain: 4, Cards: []int64{d.Hands[0][0]}})
		}
	}
}

func TestOrderOfErrorsOfAddCard(t *testing.T) {
	finished := []int64{0, 1, 2, 3}
	for _, c := range []struct {
		play impl.Play
		card int64
		want int64
	}{
		{impl.Play{Strain: 5, Cards: finished}, 0, impl.ErrInvalid},
		{impl.Play{Leader: -1, Cards: finished}, 4, impl.ErrInvalid},
		{impl.Play{Leader: 1, Cards: finished}, -1, impl.ErrInvalid},
		{impl.Play{Cards: []int64{0, 1, 2, 3, 4}}, 5, impl.ErrInvalid},
		{impl.Play{Cards: []int64{0, 1, 2, 3, 0}}, 0, impl.ErrInvalid},
		{impl.Play{Cards: []int64{0, 1, 2, 2}}, 3, impl.ErrInvalid},
		{impl.Play{Cards: []int64{1}}, 52, impl.ErrInvalid},
		{impl.Play{Cards: finished}, 0, impl.ErrState},
		{impl.Play{Cards: finished}, 4, impl.ErrState},
		{impl.Play{Strain: 4, Cards: finished}, 52, impl.ErrState},
		{impl.Play{Leader: 2, Cards: []int64{2, 3, 0, 1}}, math.MinInt64, impl.ErrState},
		{impl.Play{}, 1, impl.ErrRange},
		{impl.Play{}, 4, impl.ErrRange},
		{impl.Play{}, -1, impl.ErrRange},
		{impl.Play{Cards: []int64{0}}, 0, impl.ErrRange},
		{impl.Play{Cards: []int64{0, 1, 2}}, math.MaxInt64, impl.ErrRange},
		{impl.Play{Cards: []int64{0, 1, 2}}, 3, impl.ErrNone},
	} {
		longer, code := impl.AddCard(smallDeal(), c.play, c.card)
		if code != c.want {
			t.Errorf("AddCard(%v, %d) returns the code %d, want %d", c.play, c.card, code, c.want)
		}
		if code != impl.ErrNone && !isZeroPlay(longer) {
			t.Errorf("AddCard(%v, %d) returns %v beside the code %d", c.play, c.card, longer, code)
		}
	}
	// A value that is no deal comes before all that is said of the play.
	if _, code := impl.AddCard(impl.Deal{}, impl.Play{}, 52); code != impl.ErrInvalid {
		t.Errorf("AddCard of no deal returns the code %d", code)
	}
	if _, code := impl.AddCard(dealOf(nil, nil, nil, nil), impl.Play{}, 52); code != impl.ErrState {
		t.Errorf("AddCard of a deal without cards returns the code %d", code)
	}
}

// turnedPlay gives each hand, and the lead, to the seat that is a number of seats behind.
func turnedPlay(d impl.Deal, p impl.Play, by int64) (impl.Deal, impl.Play) {
	var to [4]int
	for seat := range to {
		to[seat] = (seat + int(by)) % 4
	}
	return tableOf(d).movedSeats(to).deal(), impl.Play{Strain: p.Strain, Leader: (p.Leader + by) % 4, Cards: p.Cards}
}

// mustTurn compares a play with that of the hands and the leader at the next seats.
func mustTurn(t *testing.T, d impl.Deal, p impl.Play, by int64) {
	t.Helper()
	next := func(seat int64) int64 { return (seat + by) % 4 }
	turned, q := turnedPlay(d, p, by)
	if !impl.IsPlay(turned, q) {
		t.Fatalf("%v is a play of %v, and %v none of %v", p, d, q, turned)
	}
	leaders, leadersTurned := impl.TrickLeaders(p), impl.TrickLeaders(q)
	for i := range leaders {
		leaders[i] = next(leaders[i])
	}
	won, wonTurned := impl.TricksOfSides(p), impl.TricksOfSides(q)
	if by%2 == 1 {
		slices.Reverse(won)
	}
	if !slices.Equal(leaders, leadersTurned) || !slices.Equal(won, wonTurned) {
		t.Fatalf("the play %v has the leaders %v and tricks %v, want %v and %v", q, leadersTurned, wonTurned, leaders, won)
	}
	left, leftTurned := impl.CardsLeft(d, p), impl.CardsLeft(turned, q)
	for seat := range left {
		if !slices.Equal(left[seat], leftTurned[next(int64(seat))]) {
			t.Fatalf("the play %v leaves %v, and turned by %d %v", p, left, by, leftTurned)
		}
	}
	turn := impl.TurnOf(d, p)
	if turn != -1 {
		turn = next(turn)
	}
	if got := impl.TurnOf(turned, q); got != turn || !slices.Equal(impl.LegalCards(turned, q), impl.LegalCards(d, p)) {
		t.Fatalf("in the play %v it is the turn of %d, want %d", q, got, turn)
	}
}

func TestTurnedPlays(t *testing.T) {
	for _, desk := range finishedPlays() {
		for _, length := range []int{0, 1, 2, 3, 4, 5, 7, 8, 20, 51, 52} {
			if length <= len(desk.play.Cards) {
				for by := int64(1); by <= 3; by++ {
					mustTurn(t, desk.deal, playUpTo(desk.play, length), by)
				}
			}
		}
	}
}

// playsForMemory lists plays without cards, under way, with complete and other last tricks, and
// finished, and two that are none.
func playsForMemory() []deskPlay {
	var list []deskPlay
	for number, desk := range finishedPlays() {
		if number%4 == 0 {
			all := len(desk.play.Cards)
			for _, length := range []int{0, 1, 3, 4, 6, 24, all} {
				list = append(list, deskPlay{deal: desk.deal, play: playUpTo(desk.play, min(length, all))})
			}
		}
	}
	revoke := impl.Play{Cards: []int64{0, 50}}
	return append(list, deskPlay{deal: everyFourthCard(), play: revoke}, deskPlay{deal: dealOf(nil), play: impl.Play{Cards: []int64{3}}})
}

func TestMemoryOfPlays(t *testing.T) {
	for _, desk := range playsForMemory() {
		with := func(cards []int64) impl.Play { return playOf(desk.play, cards) }
		checkMemory(t, "TrickLeaders", desk.play.Cards, func(cards []int64) []int64 { return impl.TrickLeaders(with(cards)) })
		checkMemory(t, "TricksOfSides", desk.play.Cards, func(cards []int64) []int64 { return impl.TricksOfSides(with(cards)) })
		checkMemory(t, "LegalCards", desk.play.Cards, func(cards []int64) []int64 { return impl.LegalCards(desk.deal, with(cards)) })
		for seat := range impl.CardsLeft(desk.deal, desk.play) {
			checkMemory(t, "CardsLeft", desk.play.Cards, func(cards []int64) []int64 { return impl.CardsLeft(desk.deal, with(cards))[seat] })
		}
		for _, card := range append(impl.LegalCards(desk.deal, desk.play), 0, 51, 52) {
			checkMemory(t, "AddCard", desk.play.Cards, func(cards []int64) []int64 {
				longer, _ := impl.AddCard(desk.deal, with(cards), card)
				return longer.Cards
			})
		}
		g := guard(desk.play.Cards)
		impl.IsPlainPlay(with(g.list()))
		impl.IsPlay(desk.deal, with(g.list()))
		impl.TurnOf(desk.deal, with(g.list()))
		impl.PlayText(with(g.list()))
		g.mustBeUnchanged(t, "the play")
	}
}

func TestMemoryOfDealsInPlays(t *testing.T) {
	for _, desk := range playsForMemory() {
		checkDealMemory(t, "CardsLeft", desk.deal, func(d impl.Deal) [][]int64 { return impl.CardsLeft(d, desk.play) })
		checkDealMemory(t, "LegalCards", desk.deal, func(d impl.Deal) [][]int64 { return [][]int64{impl.LegalCards(d, desk.play)} })
		for _, card := range append(impl.LegalCards(desk.deal, desk.play), 0, 51) {
			checkDealMemory(t, "AddCard", desk.deal, func(d impl.Deal) [][]int64 {
				longer, _ := impl.AddCard(d, desk.play, card)
				return [][]int64{longer.Cards}
			})
		}
		g := guardDeal(desk.deal)
		impl.IsPlay(g.deal(), desk.play)
		impl.TurnOf(g.deal(), desk.play)
		g.mustBeUnchanged(t, "the deal")
	}
}

func TestMemoryOfPlaysThatAreRead(t *testing.T) {
	for _, desk := range playsForMemory() {
		text := impl.PlayText(desk.play)
		first, _ := impl.ReadPlay(text)
		second, _ := impl.ReadPlay(text)
		overwrite(second.Cards)
		if third, ok := impl.ReadPlay(text); !ok || !samePlay(first, desk.play) || !samePlay(third, desk.play) {
			t.Fatalf("ReadPlay(%q) = %v and %v after a result was overwritten", text, first, third)
		}
	}
}

// Plays that share their first cards must not grow into each other.
func TestPlaysGrowApart(t *testing.T) {
	for _, desk := range finishedPlays() {
		p := impl.Play{Strain: desk.play.Strain, Leader: desk.play.Leader}
		for _, card := range desk.play.Cards {
			longer, _ := impl.AddCard(desk.deal, p, card)
			before := slices.Clone(longer.Cards)
			for _, other := range impl.LegalCards(desk.deal, p) {
				impl.AddCard(desk.deal, p, other)
			}
			for _, other := range impl.LegalCards(desk.deal, longer) {
				impl.AddCard(desk.deal, longer, other)
			}
			if !slices.Equal(longer.Cards, before) {
				t.Fatalf("%v became %v when other cards were added", before, longer.Cards)
			}
			p = longer
		}
	}
}

// textsOfPlays are long enough to have every kind of neighbour of a byte.
func textsOfPlays() []string {
	return []string{
		"CN:", "NW: SA", "DE: SA.S2", "HS: C2.C3.C4", "SN: SA.SK.SQ.SJ", "NE: D2.HT.C9.S8 H2", "CS: C2.C3.C4.C5 D6.D7.D8.D9",
		"HW: C2.C3.C4.C5 D6.D7.D8.D9 SA.SK",
	}
}

func TestTextsOfPlaysWithAByteChanged(t *testing.T) {
	for _, text := range textsOfPlays() {
		for changed := range textsWithAByteChanged(text) {
			mustReadPlay(t, changed)
		}
	}
}

func TestTextsOfPlaysWithAByteMoreOrLess(t *testing.T) {
	for _, text := range textsOfPlays() {
		for changed := range textsWithAByteMoreOrLess(text) {
			mustReadPlay(t, changed)
		}
	}
}

func TestTextsOfAllStrainsLeadersAndCards(t *testing.T) {
	for letter := range 256 {
		for other := range 256 {
			mustReadPlay(t, string([]byte{byte(letter), byte(other), ':'}))
			mustReadPlay(t, "NN: "+string([]byte{byte(letter), byte(other)}))
		}
	}
	for _, first := range cardTexts {
		for _, second := range cardTexts {
			for _, separator := range []string{".", " "} {
				mustReadPlay(t, "HE: "+first+separator+second)
				mustReadPlay(t, "HE: C2.D2.H2."+first+separator+second)
			}
		}
	}
}

func TestTextsThatAreNoPlays(t *testing.T) {
	whole := textOfPlay(impl.Play{Strain: 4, Leader: 1, Cards: cardRange(0, 51)})
	mustReadPlay(t, whole)
	for _, text := range []string{
		"", " ", ":", "N", "NW", "W:", "N:", ": SA", "NW SA", "NW;", "NW; SA", "NW:SA", "NW:.SA", "WN:", "NN", "NNW:", "NWW:", "XN:", "NX:", "EN:",
		"nW:", "Nw:", "nw:", "4N:", "N0:", "00:", "N W:", " NW:", "NW :", "NW: ", "NW:  SA", "NW: SA ", "NW: SA.", "NW: .SA", "NW: SA..S2",
		"NW: SA. S2", "NW: SA .S2", "NW: SA S2", "NW: SA,S2", "NW: SA-S2", "NW: SA:S2", "NW: SAS2", "NW: SA\tS2", "NW:\tSA", "NW: SA\n", "\nNW: SA",
		"NW: SA.SA", "NW: SA.SK.SQ.SA", "NW: SA.SK.SQ.SJ SA", "NW: SA.SK.SQ.SJ.ST", "NW: SA.SK SQ.SJ ST", "NW: SA.SK.SQ.SJ  ST", "NW: SA.SK.SQ.SJ. ST",
		"NW: sa", "NW: Sa", "NW: sA", "NW: S1", "NW: S10", "NW: S", "NW: A", "NW: AS", "NW: NA", "NW: S2.", "NW: 51", "NW: 51.39", "NW:: SA", "NW: NW: SA",
		"NW: SA.S2\x00", "NW: SA\u00b7S2", "NW:\u00a0SA", "NW: SA\u2024S2", "\ufeffNW: SA", "NW: \xff", "NW: SA\xffS2", "SA.S2", "N: SA.S2",
		whole + " C2", whole + " SA", whole + ".C2", whole + " ", whole + " C1", whole + whole[3:], "NW:" + strings.Repeat(" SA", 5000),
		"NW:" + strings.Repeat(" ", 5000), "NW:" + strings.Repeat(".", 5000), strings.Repeat("NW:", 5000), strings.Repeat(":", 5000),
	} {
		if p, ok := impl.ReadPlay(text); ok || !isZeroPlay(p) {
			t.Errorf("ReadPlay(%q) = %v, %v, want the zero value and false", text, p, ok)
		}
		mustReadPlay(t, text)
	}
}

func TestTextsOfPlaysWithOtherSeparatorsOrLetters(t *testing.T) {
	for _, desk := range finishedPlays() {
		text := impl.PlayText(desk.play)
		mustReadPlay(t, strings.ToLower(text))
		mustReadPlay(t, strings.ReplaceAll(text, ".", " "))
		mustReadPlay(t, strings.ReplaceAll(text, " ", "."))
		mustReadPlay(t, strings.ReplaceAll(text, ".", ""))
		mustReadPlay(t, strings.ReplaceAll(text, ".", ", "))
		mustReadPlay(t, strings.ReplaceAll(text, ":", ""))
		if got, ok := impl.ReadPlay(strings.ToLower(text)); ok || !isZeroPlay(got) {
			t.Fatalf("ReadPlay(%q) = %v, %v", strings.ToLower(text), got, ok)
		}
	}
}
