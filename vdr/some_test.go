package vdr_test

import (
	"fmt"
	"math"
	"math/rand/v2"
	"slices"
	"strings"

	"flurry/api"
)

// pair is the chapter's example.
func pair() []api.Vdr { return []api.Vdr{{Name: "ana", Weight: 3}, {Name: "bö-2", Weight: 1}} }

// crowd are n validators with unlike names, each of one weight.
func crowd(n int, weight int64) []api.Vdr {
	l := make([]api.Vdr, n)
	for i := range l {
		l[i] = api.Vdr{Name: fmt.Sprintf("v%d", i), Weight: weight}
	}
	return l
}

// goodSets are unlike sets that may be, with as few and as many validators, and as little and as much stake, as there may be.
func goodSets() [][]api.Vdr {
	const most = api.MaxStake
	l := [][]api.Vdr{
		pair(),
		{{Name: "a", Weight: 1}},
		{{Name: "a", Weight: most}},
		{{Name: "a", Weight: most - 1}, {Name: "b", Weight: 1}},
		{{Name: "b", Weight: 1}, {Name: "a", Weight: most - 1}},
		{{Name: "a", Weight: most / 2}, {Name: "b", Weight: most/2 + 1}},
		{{Name: "-", Weight: 10}, {Name: "0", Weight: 9}, {Name: "--", Weight: 100}},
		{{Name: strings.Repeat("ɏ", api.MaxName), Weight: 5}, {Name: strings.Repeat("ɏ", api.MaxName-1), Weight: 5}},
		{{Name: "zeta", Weight: 7}, {Name: "ana", Weight: 7}, {Name: "zet", Weight: 8}},
	}
	for n := 1; n <= api.MaxVdrs; n++ {
		l = append(l, crowd(n, int64(n)), crowd(n, most/int64(n)))
	}
	full := crowd(api.MaxVdrs, most/api.MaxVdrs)
	full[17].Weight += most % api.MaxVdrs
	return append(append(l, full), randomSets()...)
}

// randomSets are sets that may be, the same in each run.
func randomSets() [][]api.Vdr {
	r := rand.New(rand.NewPCG(5, 5))
	sets := make([][]api.Vdr, 100)
	for i := range sets {
		for len(sets[i]) < 1+i%api.MaxVdrs {
			v := api.Vdr{Name: randomName(r), Weight: 1 + r.Int64N(1<<r.IntN(57))}
			if !slices.ContainsFunc(sets[i], func(w api.Vdr) bool { return w.Name == v.Name }) {
				sets[i] = append(sets[i], v)
			}
		}
	}
	return sets
}

func randomName(r *rand.Rand) string {
	l := make([]rune, 1+r.IntN(api.MaxName))
	for i := range l {
		l[i] = letters[r.IntN(len(letters))]
	}
	return string(l)
}

// badSet is a set that may not be, and why.
type badSet struct {
	l   []api.Vdr
	err api.Errno
}

// badSets are sets that may not be, also for more than one reason: the one that counts is the first of ErrLong, ErrName, ErrWeight.
func badSets() []badSet {
	const most = api.MaxStake
	l := []badSet{
		{nil, api.ErrLong},
		{[]api.Vdr{}, api.ErrLong},
		{crowd(33, 1), api.ErrLong},
		{crowd(1000, 1), api.ErrLong},
		{make([]api.Vdr, 33), api.ErrLong},
		{crowd(33, most), api.ErrLong},

		{make([]api.Vdr, 1), api.ErrName},
		{make([]api.Vdr, 32), api.ErrName},
		{[]api.Vdr{{Name: "", Weight: 1}}, api.ErrName},
		{[]api.Vdr{{Name: "a", Weight: 1}, {Name: "a", Weight: 2}}, api.ErrName},
		{[]api.Vdr{{Name: "a", Weight: 1}, {Name: "b", Weight: 2}, {Name: "a", Weight: 1}}, api.ErrName},
		{[]api.Vdr{{Name: "a", Weight: 0}, {Name: "b", Weight: most}, {Name: "b", Weight: most}}, api.ErrName},
		{[]api.Vdr{{Name: "a", Weight: -1}, {Name: "B", Weight: 1}}, api.ErrName},

		{crowd(2, 0), api.ErrWeight},
		{[]api.Vdr{{Name: "a", Weight: 0}}, api.ErrWeight},
		{[]api.Vdr{{Name: "a", Weight: -1}}, api.ErrWeight},
		{[]api.Vdr{{Name: "a", Weight: math.MinInt64}}, api.ErrWeight},
		{[]api.Vdr{{Name: "a", Weight: most + 1}}, api.ErrWeight},
		{[]api.Vdr{{Name: "a", Weight: math.MaxInt64}}, api.ErrWeight},
		{[]api.Vdr{{Name: "a", Weight: most}, {Name: "b", Weight: 1}}, api.ErrWeight},
		{[]api.Vdr{{Name: "a", Weight: 1}, {Name: "b", Weight: most}}, api.ErrWeight},
		{[]api.Vdr{{Name: "a", Weight: 1}, {Name: "b", Weight: 0}, {Name: "c", Weight: 1}}, api.ErrWeight},
		{[]api.Vdr{{Name: "a", Weight: 5}, {Name: "b", Weight: 5}, {Name: "c", Weight: -1}}, api.ErrWeight},
		{crowd(2, math.MaxInt64), api.ErrWeight},
		{crowd(4, most+1), api.ErrWeight},  // together 2^64: 0, if they wrapped round
		{crowd(8, 1<<61+1), api.ErrWeight}, // and 8
		{crowd(32, most/32+1), api.ErrWeight},
	}
	for _, name := range badNames() {
		l = append(l, badSet{[]api.Vdr{{Name: "a", Weight: 1}, {Name: name, Weight: 1}, {Name: "c", Weight: 1}}, api.ErrName})
	}
	return l
}

// letters are all runes that a name may have, written out.
var letters = []rune("0123456789abcdefghijklmnopqrstuvwxyz-" +
	"ÀÁÂÃÄÅÆÇÈÉÊËÌÍÎÏÐÑÒÓÔÕÖØÙÚÛÜÝÞßàáâãäåæçèéêëìíîïðñòóôõöøùúûüýþÿ" +
	"ĀāĂăĄąĆćĈĉĊċČčĎďĐđĒēĔĕĖėĘęĚěĜĝĞğĠġĢģĤĥĦħĨĩĪīĬĭĮįİıĲĳĴĵĶķĸĹĺĻļĽľĿŀŁłŃńŅņŇňŉŊŋŌōŎŏŐőŒœŔŕŖŗŘřŚśŜŝŞşŠšŢţŤťŦŧŨũŪūŬŭŮůŰűŲųŴŵŶŷŸŹźŻżŽžſ" +
	"ƀƁƂƃƄƅƆƇƈƉƊƋƌƍƎƏƐƑƒƓƔƕƖƗƘƙƚƛƜƝƞƟƠơƢƣƤƥƦƧƨƩƪƫƬƭƮƯưƱƲƳƴƵƶƷƸƹƺƻƼƽƾƿǀǁǂǃǄǅǆǇǈǉǊǋǌǍǎǏǐǑǒǓǔǕǖǗǘǙǚǛǜǝǞǟǠǡǢǣǤǥǦǧǨǩǪǫǬǭǮǯǰǱǲǳǴǵǶǷǸǹǺǻǼǽǾǿ" +
	"ȀȁȂȃȄȅȆȇȈȉȊȋȌȍȎȏȐȑȒȓȔȕȖȗȘșȚțȜȝȞȟȠȡȢȣȤȥȦȧȨȩȪȫȬȭȮȯȰȱȲȳȴȵȶȷȸȹȺȻȼȽȾȿɀɁɂɃɄɅɆɇɈɉɊɋɌɍɎɏ")

// badNames are names that may not be: too short, too long, or with a rune that none has at any place.
func badNames() []string {
	l := []string{
		"", strings.Repeat("a", 17), strings.Repeat("ɏ", 17), strings.Repeat("-", 1000), strings.Repeat("a", 16) + "\xff",
		"Ana", "anA", "a b", " a", "a ", "a\n", "\na", "a\x00", "×", "a÷", "¿", "ɐ", "a\u00ad", "bo\u0308",
		"\xff", "a\x80", "\xc3", "b\xc3", "\xc3\xc3", "\xc0\xaf", "\xc1\xa1", "\xed\xa0\x80", "\xf4\x90\x80\x80", "\xe0\x83\x80", "\ufffd", "a\xe2\x82",
	}
	return l
}
