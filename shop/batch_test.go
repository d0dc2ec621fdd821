package shop_test

import (
	"math/rand/v2"
	"slices"
	"testing"

	"cusp/api"
	"cusp/shop"
)

// P9.4: CheckBatches and Taken.

// stock returns the batches of the chapter.
func stock() []shop.Batch {
	return []shop.Batch{batch("x", 30, 9), batch("y", 50, 7), batch("z", 20, 3)}
}

func TestBatchesOfTheExamples(t *testing.T) {
	same(t, "60 grams", fine[[]shop.Take](t)(shop.Taken(stock(), "k", 60, 5)), []shop.Take{{Batch: 1, Grams: 50}, {Batch: 0, Grams: 10}})
	same(t, "80 grams", fine[[]shop.Take](t)(shop.Taken(stock(), "k", 80, 5)), []shop.Take{{Batch: 1, Grams: 50}, {Batch: 0, Grams: 30}})
	got, e := shop.Taken(stock(), "k", 81, 5)
	refused(t, "81 grams", got, e, api.ErrStock)
	same(t, "on the last day", fine[[]shop.Take](t)(shop.Taken(stock(), "k", 21, 3)), []shop.Take{{Batch: 2, Grams: 20}, {Batch: 1, Grams: 1}})
	same(t, "a batch is enough", fine[[]shop.Take](t)(shop.Taken(stock(), "k", 50, 4)), []shop.Take{{Batch: 1, Grams: 50}})
	same(t, "nothing", fine[[]shop.Take](t)(shop.Taken(stock(), "k", 0, 5)), nil)
	same(t, "nothing of nothing", fine[[]shop.Take](t)(shop.Taken(nil, "k", 0, api.MaxDay)), nil)
	got, e = shop.Taken(stock(), "K", 1, 0)
	refused(t, "another kind", got, e, api.ErrStock)
	got, e = shop.Taken(stock(), "k", 1, 10)
	refused(t, "after the last day", got, e, api.ErrStock)
	empty := append([]shop.Batch{batch("e", 0, 8)}, stock()...)
	same(t, "an empty batch", fine[[]shop.Take](t)(shop.Taken(empty, "k", 60, 5)), []shop.Take{{Batch: 2, Grams: 50}, {Batch: 1, Grams: 10}})
}

// randomBatches returns up to n batches of three kinds; many have the same day.
func randomBatches(r *rand.Rand, n int) []shop.Batch {
	var l []shop.Batch
	for i := range r.IntN(n + 1) {
		l = append(l, shop.Batch{Name: name(i), Kind: []string{"k", "k", "m", "K"}[r.IntN(4)], Grams: r.IntN(8), Until: r.IntN(6)})
	}
	return l
}

// takenGramByGram returns what is taken by the definition, or whether there is not enough.
func takenGramByGram(l []shop.Batch, kind string, grams, day int) ([]shop.Take, bool) {
	rest := slices.Clone(l)
	var takes []shop.Take
	for range grams {
		from := -1
		for i, b := range rest {
			if b.Kind == kind && b.Until >= day && b.Grams > 0 && (from < 0 || b.Until < rest[from].Until) {
				from = i
			}
		}
		if from < 0 {
			return nil, false
		}
		rest[from].Grams--
		if last := len(takes) - 1; last >= 0 && takes[last].Batch == from {
			takes[last].Grams++
		} else {
			takes = append(takes, shop.Take{Batch: from, Grams: 1})
		}
	}
	return takes, true
}

func TestTaken(t *testing.T) {
	r := dice()
	enough, several := 0, 0
	for range 5000 {
		l := randomBatches(r, 16)
		grams, day := r.IntN(20), r.IntN(7)
		wanted, isEnough := takenGramByGram(l, "k", grams, day)
		got, e := shop.Taken(l, "k", grams, day)
		if !isEnough {
			refused(t, "Taken", got, e, api.ErrStock)
			continue
		}
		same(t, "Taken", e, api.OK)
		same(t, "Taken", got, wanted)
		enough++
		if len(got) > 2 {
			several++
		}
	}
	if enough < 1000 || enough > 4000 || several < 500 {
		t.Errorf("%d times enough, %d times from several batches", enough, several)
	}
}

// TestManyBatches: of batches with the same day the first ones of the list are taken, also of 256.
func TestManyBatches(t *testing.T) {
	var l []shop.Batch
	var all []shop.Take
	for i := range 256 {
		l, all = append(l, batch(name(i), 3, 5)), append(all, shop.Take{Batch: i, Grams: 3})
	}
	same(t, "all", fine[[]shop.Take](t)(shop.Taken(l, "k", 768, 5)), all)
	same(t, "half of them", fine[[]shop.Take](t)(shop.Taken(l, "k", 384, 0)), all[:128])
	got, e := shop.Taken(l, "k", 769, 5)
	refused(t, "more", got, e, api.ErrStock)
	for i := range l {
		l[i].Grams = api.MaxNumber
	}
	same(t, "the most", fine[[]shop.Take](t)(shop.Taken(l, "k", api.MaxNumber, 5)), []shop.Take{{Batch: 0, Grams: api.MaxNumber}})
}

func TestErrorsOfBatches(t *testing.T) {
	type bad struct {
		l []shop.Batch
		e api.Errno
	}
	l := []bad{
		{make([]shop.Batch, 257), api.ErrMany},
		{append(stock(), shop.Batch{Name: "x", Kind: "", Grams: -1}), api.ErrName},
		{append(stock(), batch("x", -1, -1)), api.ErrTwice},
		{[]shop.Batch{batch("x", -1, 1), batch("x", 1, 1)}, api.ErrRange},
	}
	for _, s := range badNames() {
		l = append(l, bad{append(stock(), batch(s, 1, 1)), api.ErrName})
		l = append(l, bad{append(stock(), shop.Batch{Name: "a", Kind: s, Grams: 1, Until: 1}), api.ErrName})
	}
	for _, n := range []int{-1, least, greatest} {
		l = append(l, bad{append(stock(), batch("a", n, 1)), api.ErrRange}, bad{append(stock(), batch("a", 1, n)), api.ErrRange})
	}
	l = append(l, bad{[]shop.Batch{batch("a", api.MaxNumber+1, 1)}, api.ErrRange}, bad{[]shop.Batch{batch("a", 1, api.MaxDay+1)}, api.ErrRange})
	for _, x := range l {
		same(t, "CheckBatches", shop.CheckBatches(x.l), x.e)
		got, e := shop.Taken(x.l, "", -1, -1)
		refused(t, "Taken", got, e, x.e)
	}
	same(t, "the chapter's", shop.CheckBatches(stock()), api.OK)
	same(t, "none", shop.CheckBatches(nil), api.OK)
	same(t, "the limits", shop.CheckBatches([]shop.Batch{{Name: longName, Kind: longName, Grams: api.MaxNumber, Until: api.MaxDay}, batch("e", 0, 0)}), api.OK)
}

func TestErrorsOfTaken(t *testing.T) {
	for _, s := range badNames() {
		got, e := shop.Taken(stock(), s, -1, -1)
		refused(t, "no kind", got, e, api.ErrName)
	}
	for _, n := range []int{-1, least, greatest} {
		got, e := shop.Taken(stock(), "k", n, 1)
		refused(t, "grams", got, e, api.ErrRange)
		got, e = shop.Taken(stock(), "k", 1000, n)
		refused(t, "a day", got, e, api.ErrRange)
	}
	got, e := shop.Taken(stock(), "k", api.MaxNumber+1, 1)
	refused(t, "grams", got, e, api.ErrRange)
	got, e = shop.Taken(stock(), "k", api.MaxNumber, 1)
	refused(t, "grams", got, e, api.ErrStock)
	got, e = shop.Taken(stock(), "k", 1, api.MaxDay+1)
	refused(t, "a day", got, e, api.ErrRange)
	got, e = shop.Taken(stock(), "k", 1, api.MaxDay)
	refused(t, "a day", got, e, api.ErrStock)
}

// TestMemoryOfBatches: arguments stay as they are, and results are new.
func TestMemoryOfBatches(t *testing.T) {
	l := stock()
	shop.CheckBatches(l)
	fine[[]shop.Take](t)(shop.Taken(l, "k", 60, 5))[0].Grams = 7
	same(t, "Taken again", fine[[]shop.Take](t)(shop.Taken(l, "k", 60, 5)), []shop.Take{{Batch: 1, Grams: 50}, {Batch: 0, Grams: 10}})
	same(t, "the batches", l, stock())
}
