package tests

import (
	"math"
	"slices"
	"strings"
	"testing"

	"loop.example/g00261/impl"
)

// readByTrial cuts a text and holds it against the text of what came of it.
func readByTrial(text string) ([]impl.Write, bool) {
	var l []impl.Write
	for at := 1; at+9 < len(text); at += 9 {
		l = append(l, impl.Write{Sector: int(text[at]), Data: text[at+1 : at+9]})
	}
	if !isTxnByTrial(l, 32) || textByTrial(l) != text {
		return nil, false
	}
	return l, true
}

func goodDeviceByTrial(d impl.Device) bool {
	for _, text := range d.Sectors {
		if len(text) != 8 {
			return false
		}
	}
	for _, w := range d.Pending {
		if !isTxnByTrial([]impl.Write{w}, len(d.Sectors)) {
			return false
		}
	}
	return len(d.Sectors) >= 1 && len(d.Sectors) <= 32 && len(d.Pending) <= 60
}

// goodStoreByTrial goes by the words of the chapter one by one.
func goodStoreByTrial(s impl.Store) bool {
	if !goodDeviceByTrial(s.Disk) || len(s.Log) > 40 || s.Synced < 0 || s.Synced > len(s.Log) {
		return false
	}
	synced := map[impl.Write]int{}
	for i, text := range s.Log {
		l, ok := readByTrial(text)
		if !ok || !isTxnByTrial(l, len(s.Disk.Sectors)) {
			return false
		}
		for _, w := range l {
			if i < s.Synced {
				synced[w]++
			}
		}
	}
	for _, w := range s.Disk.Pending {
		if synced[w] == 0 {
			return false
		}
	}
	return true
}

func copyStore(s impl.Store) impl.Store {
	return impl.Store{Disk: impl.Device{Sectors: slices.Clone(s.Disk.Sectors), Pending: slices.Clone(s.Disk.Pending)}, Log: slices.Clone(s.Log), Synced: s.Synced}
}

// notTxnTexts are texts of no transaction, or of none of two sectors.
func notTxnTexts() []string {
	return []string{
		"", "\x00", "\x01", "0a", "\x00\x00", strings.Repeat("\x00", 11), strings.Repeat("\x01", 11),
		textByTrial(nil), textByTrial(txnIn("0a")) + "\x00", textByTrial(txnIn("0a"))[:10], textByTrial(txnIn("0a"))[1:], withXor(textByTrial(txnIn("0a"))),
		textByTrial(txnIn("0a+0b")), textByTrial(txnIn("2a")), textByTrial(txnIn("0a+2b")), textByTrial(txnIn("31a")), textByTrial(txnIn("32a")), textByTrial(txnIn("255a")),
		textByTrial(spread(0, 9, 'a')), textByTrial(spread(0, 32, 'a')), textByTrial([]impl.Write{{Sector: 0, Data: "1234567"}}), textByTrial([]impl.Write{{Sector: 0, Data: "123456789"}}),
	}
}

// badStores are not as said, each in one way.
func badStores() []impl.Store {
	l := []impl.Store{
		{}, {Log: []string{textByTrial(txnIn("0a"))}}, {Synced: 1}, logged(41, 1).store(), logged(41, 1).withSync(40).store(), logged(10000, 1).withSync(10000).store(),
	}
	for _, text := range []string{
		"ab|0c|", "ab|0a|", "ab|0c|! 0c", "ab|0c|1c !", "ab|0d|0c !", "ab|0c 1d|0c ! 1d", "ab|0c 0c 0d|0c ! 0d", "ab||! 2c", "ab||2c !", "ab|2c|2c !", "ab||0c ! 0c+2c", "ab||! 0c+0d", "ab||0c+0c !",
	} {
		l = append(l, storeIn(text))
	}
	for _, d := range badDevices() {
		l = append(l, impl.Store{Disk: d})
		log := []string{}
		for _, w := range d.Pending {
			log = append(log, textByTrial([]impl.Write{w}))
		}
		l = append(l, impl.Store{Disk: d, Log: log, Synced: len(log)})
	}
	for _, text := range append(notTxnTexts(), strings.Repeat("\xff", 2297), strings.Repeat("\x01", 100000)) {
		l = append(l, impl.Store{Disk: newDevice(2), Log: []string{text}})
		l = append(l, impl.Store{Disk: newDevice(2), Log: []string{textByTrial(txnIn("0a")), text}, Synced: 1})
		l = append(l, impl.Store{Disk: newDevice(2), Log: []string{text, textByTrial(txnIn("0a"))}, Synced: 2})
	}
	for _, n := range append(oddNumbers(), 41, 42) {
		if n < 0 || n > 2 {
			l = append(l, impl.Store{Disk: newDevice(2), Synced: n}, ledgerIn("..||! 0a 1b").withSync(n).store())
		}
	}
	return l
}

func wantStoreRefused(t *testing.T, s impl.Store) {
	t.Helper()
	if impl.GoodStore(s) {
		t.Fatalf("%#v is good", s)
	}
	for _, txn := range []string{"", "0a", "1b", "31b", "0a+0a"} {
		got, ok := impl.Commit(s, txnIn(txn))
		wantNoStore(t, "Commit", got, ok)
	}
	for _, do := range []func(impl.Store) (impl.Store, bool){impl.SyncLog, impl.WriteBack, impl.CheckpointLog, impl.RecoverStore} {
		got, ok := do(s)
		wantNoStore(t, "a step", got, ok)
	}
	for _, keep := range [][]bool{nil, make([]bool, len(s.Disk.Pending)), slices.Repeat([]bool{true}, len(s.Disk.Pending)), {true}} {
		for _, log := range []int{0, 1, s.Synced, len(s.Log), -1, math.MaxInt, math.MinInt} {
			got, ok := impl.CrashStore(s, keep, log)
			wantNoStore(t, "CrashStore", got, ok)
		}
	}
	if l, ok := impl.ViewOf(s); ok || len(l) != 0 {
		t.Fatalf("ViewOf of %#v: got %q %v, want the zero answer", s, l, ok)
	}
}

func TestBadStoresAreRefused(t *testing.T) {
	for _, s := range badStores() {
		if goodStoreByTrial(s) {
			t.Fatalf("%#v is good by trial", s)
		}
		held := copyStore(s)
		wantStoreRefused(t, s)
		if !sameStore(s, held) {
			t.Fatalf("a refusal wrote into %#v", held)
		}
	}
}

// changedStores differ from a store in one number, one text, one write or one sector.
func changedStores(s impl.Store) []impl.Store {
	var l []impl.Store
	change := func(by func(c *impl.Store)) {
		c := copyStore(s)
		by(&c)
		l = append(l, c)
	}
	for _, n := range []int{-2, -1, 1, 2, 40, math.MaxInt, math.MinInt} {
		change(func(c *impl.Store) { c.Synced += n })
	}
	for i := range s.Log {
		for _, text := range append(notTxnTexts(), textByTrial(txnIn("0c")), textByTrial(txnIn("1d+0e")), textByTrial(txnIn("2h"))) {
			change(func(c *impl.Store) { c.Log[i] = text })
		}
		change(func(c *impl.Store) { c.Log = slices.Delete(c.Log, i, i+1) })
		change(func(c *impl.Store) { c.Log = slices.Insert(c.Log, i, c.Log[i]) })
		change(func(c *impl.Store) { c.Log[i], c.Log[0] = c.Log[0], c.Log[i] })
		for at := range len(s.Log[i]) {
			change(func(c *impl.Store) { c.Log[i] = c.Log[i][:at] + "\x01" + c.Log[i][at+1:] })
		}
	}
	for _, w := range []impl.Write{{}, {Sector: -1}, write(0, 'c'), write(0, 'e'), write(1, 'd'), write(1, 'f'), write(2, 'h'), write(3, 'e'), write(99, 'c'), {Sector: 0, Data: "c"}} {
		change(func(c *impl.Store) { c.Disk.Pending = append(c.Disk.Pending, w) })
		change(func(c *impl.Store) { c.Disk.Pending = append(c.Disk.Pending, manyTimes(60, w)...) })
		for i := range s.Disk.Pending {
			change(func(c *impl.Store) { c.Disk.Pending[i] = w })
			change(func(c *impl.Store) { c.Disk.Pending[i].Sector += 1 + w.Sector })
		}
	}
	for i := range s.Disk.Sectors {
		change(func(c *impl.Store) { c.Disk.Sectors[i] = "short" })
		change(func(c *impl.Store) { c.Disk.Sectors[i] = sectorOf(0xff) })
		change(func(c *impl.Store) { c.Disk.Sectors = c.Disk.Sectors[:i] })
		change(func(c *impl.Store) { c.Disk.Sectors = append(c.Disk.Sectors, sectorOf('z')) })
	}
	return l
}

func checkGoodStore(t *testing.T, s impl.Store) {
	t.Helper()
	good := goodStoreByTrial(s)
	if impl.GoodStore(s) != good {
		t.Fatalf("GoodStore of %#v: got %v", s, !good)
	}
	if _, ok := impl.ViewOf(s); ok != good {
		t.Fatalf("ViewOf of %#v: told %v", s, ok)
	}
}

func TestGoodStoresAreWhatTheWordsSay(t *testing.T) {
	for _, text := range goodStoreTexts() {
		if !goodStoreByTrial(storeIn(text)) {
			t.Errorf("%s is not good by trial", text)
		}
		checkGoodStore(t, storeIn(text))
		for _, one := range changedStores(storeIn(text)) {
			checkGoodStore(t, one)
		}
	}
	for _, text := range []string{"ab|0c|0c ! 1d", "ab|1d 0c|0c+1d ! 1e"} {
		for _, one := range changedStores(storeIn(text)) {
			for _, two := range changedStores(one) {
				checkGoodStore(t, two)
			}
		}
	}
}

func checkReadTxn(t *testing.T, text string) {
	t.Helper()
	if l, ok := readByTrial(text); ok {
		wantTxn(t, text, l)
	} else {
		wantNoTxn(t, text)
	}
}

func TestReadTxnIsWhatTheWordsSay(t *testing.T) {
	for many := range 256 {
		for _, long := range []int{0, 1, 8, 9, 10, 18, 63, 71, 72, 73, 81, 9 * many} {
			body := string([]byte{byte(many)}) + strings.Repeat("\x00", long)
			checkReadTxn(t, body)
			checkReadTxn(t, withXor(body))
		}
		checkReadTxn(t, withXor("\x01"+string([]byte{byte(many)})+"abcdefgh"))
		checkReadTxn(t, withXor("\x02\x00abcdefgh"+string([]byte{byte(many)})+"abcdefgh"))
	}
	s := steps(191)
	for range 20000 {
		l := someTxn(&s, impl.MaxSectors, 8)
		checkReadTxn(t, textByTrial(l))
		for range s.below(3) {
			l[s.below(len(l))].Sector = s.below(34)
		}
		text := []byte(textByTrial(l))
		for range s.below(3) {
			text[s.below(len(text))] = byte(s.below(256))
		}
		checkReadTxn(t, string(text))
		checkReadTxn(t, withXor(string(text[:len(text)-1])))
	}
}

// oddTxns are lists that are no transaction, or barely one, of numbers that may be in the way.
func oddTxns() [][]impl.Write {
	l := [][]impl.Write{nil, {}, {{}}, {{}, {}}, spread(0, 9, 'a'), make([]impl.Write, 100000), manyTimes(2, write(0, 'a')), manyTimes(8, write(1, 'a')), {{Sector: 0, Data: strings.Repeat("a", 100000)}}}
	for _, n := range oddNumbers() {
		l = append(l, []impl.Write{write(n, 'a')}, []impl.Write{write(0, 'a'), write(n, 'b')}, []impl.Write{write(n, 'a'), write(1, 'b')}, []impl.Write{{Sector: n}})
	}
	return l
}

func TestOddTransactions(t *testing.T) {
	for _, l := range oddTxns() {
		checkTxnText(t, l)
		for _, text := range goodStoreTexts() {
			checkCommit(t, ledgerIn(text), l)
		}
	}
}

func TestOddNumbersInStores(t *testing.T) {
	for _, n := range append(oddNumbers(), 31, 32, 33, 39, 40, 41) {
		got, ok := impl.NewStore(n)
		if n < 1 || n > 32 {
			wantNoStore(t, "NewStore", got, ok)
		} else {
			wantStore(t, "NewStore", got, ok, impl.Store{Disk: newDevice(n)})
		}
		for _, text := range goodStoreTexts() {
			b := ledgerIn(text)
			for _, keep := range [][]bool{nil, make([]bool, len(b.pending)), slices.Repeat([]bool{true}, len(b.pending)), make([]bool, len(b.pending)+1)} {
				checkCrash(t, b, keep, n)
			}
			checkGoodStore(t, b.withSync(n).store())
		}
		checkCrash(t, logged(40, 1).withSync(20), nil, n)
	}
}

// roomyStore has room behind each of its lists, with what would be good there and is none of it.
func roomyStore(text string) impl.Store {
	s := storeIn(text)
	s.Disk.Sectors = withRoom(s.Disk.Sectors, sectorOf('B'), sectorOf('B'), "behind")
	s.Disk.Pending = withRoom(s.Disk.Pending, write(0, 'B'), write(7, 'B'))
	s.Log = withRoom(s.Log, textByTrial(txnIn("0B")), textByTrial(txnIn("0B+7B")))
	return s
}

func textsOfStore(s impl.Store) [][]string {
	return [][]string{s.Disk.Sectors, s.Log}
}

func writesOfStore(s impl.Store) [][]impl.Write {
	return [][]impl.Write{s.Disk.Pending}
}

func wantRoomyStore(t *testing.T, what string, s impl.Store, text string) {
	t.Helper()
	wantAsFresh(t, what, textsOfStore(s), textsOfStore(roomyStore(text)))
	wantAsFresh(t, what, writesOfStore(s), writesOfStore(roomyStore(text)))
}

// wantStoreApart: each list of an answer is its own.
func wantStoreApart(t *testing.T, what string, s impl.Store, text string, answer impl.Store) {
	t.Helper()
	wantListsApart(t, what, textsOfStore(s), textsOfStore(roomyStore(text)), textsOfStore(answer), "spoilt")
	wantListsApart(t, what, writesOfStore(s), writesOfStore(roomyStore(text)), writesOfStore(answer), impl.Write{Sector: 9, Data: "spoilt"})
}

// stepsOnStores answer as their steps do, each with a list of writes and one of keeps that have room behind their length.
func stepsOnStores() map[string]func(s impl.Store, l []impl.Write, keep []bool) (impl.Store, bool) {
	alone := func(do func(impl.Store) (impl.Store, bool)) func(impl.Store, []impl.Write, []bool) (impl.Store, bool) {
		return func(s impl.Store, _ []impl.Write, _ []bool) (impl.Store, bool) { return do(s) }
	}
	return map[string]func(s impl.Store, l []impl.Write, keep []bool) (impl.Store, bool){
		"Commit":        func(s impl.Store, l []impl.Write, _ []bool) (impl.Store, bool) { return impl.Commit(s, l) },
		"SyncLog":       alone(impl.SyncLog),
		"WriteBack":     alone(impl.WriteBack),
		"CheckpointLog": alone(impl.CheckpointLog),
		"RecoverStore":  alone(impl.RecoverStore),
		"CrashStore": func(s impl.Store, _ []impl.Write, keep []bool) (impl.Store, bool) {
			return impl.CrashStore(s, keep, s.Synced)
		},
		"CrashStore of all": func(s impl.Store, _ []impl.Write, keep []bool) (impl.Store, bool) {
			return impl.CrashStore(s, keep, len(s.Log))
		},
	}
}

func TestStoreAnswersAreNewMemory(t *testing.T) {
	told := map[string]int{}
	for _, text := range goodStoreTexts() {
		for name, step := range stepsOnStores() {
			plain, isPlain := step(storeIn(text), txnIn("0x"), make([]bool, len(storeIn(text).Disk.Pending)))
			s := roomyStore(text)
			l := withRoom(txnIn("0x"), write(0, 'B'))
			keep := withRoom(make([]bool, len(s.Disk.Pending)), true, true)
			got, ok := step(s, l, keep)
			if ok != isPlain || !sameStore(got, plain) {
				t.Fatalf("%s of %s: what lies behind a length counts: got %#v %v", name, text, got, ok)
			}
			wantRoomyStore(t, name, s, text)
			if l[:2][1] != write(0, 'B') || l[0] != write(0, 'x') || slices.Index(keep[:cap(keep)], true) != len(keep) {
				t.Fatalf("%s wrote into %v or %v", name, l[:2], keep[:cap(keep)])
			}
			spoil(l, write(9, 'q'))
			spoil(keep, true)
			if ok {
				told[name]++
				wantStore(t, name+", its list spoilt", got, ok, plain)
				wantStoreApart(t, name+" of "+text, s, text, got)
			}
		}
	}
	for name := range stepsOnStores() {
		if told[name] < 3 {
			t.Errorf("%s told true %d times", name, told[name])
		}
	}
}

func TestQuestionsWriteIntoNoStore(t *testing.T) {
	for _, text := range goodStoreTexts() {
		s := roomyStore(text)
		for range 2 {
			l, ok := impl.ViewOf(s)
			if !ok || !slices.Equal(l, ledgerIn(text).view()) || slices.Contains(l[:cap(l)], "behind") || slices.Contains(l[:cap(l)], sectorOf('B')) {
				t.Fatalf("ViewOf of %s: got %q %v", text, l, ok)
			}
			spoil(l, "spoilt")
			if !impl.GoodStore(s) {
				t.Fatalf("%s is not good", text)
			}
			wantRoomyStore(t, "asked", s, text)
		}
	}
}

// What is not good by its length alone is not made good by what lies behind it, nor the other way.
func TestListsOfStoresEndAtTheirLength(t *testing.T) {
	full := logged(41, 1).store()
	full.Log = full.Log[:40]
	if !impl.GoodStore(full) {
		t.Error("a text behind a full log makes it bad")
	}
	got, ok := impl.Commit(full, txnIn("0a"))
	wantNoStore(t, "Commit", got, ok)
	s := storeIn("ab|1d|0c 1d !")
	s.Log, s.Synced = s.Log[:1], 1
	wantStoreRefused(t, s)
	s.Disk.Pending = s.Disk.Pending[:0]
	if !impl.GoodStore(s) {
		t.Error("a write behind the pending ones makes it bad")
	}
	s.Synced = 2
	wantStoreRefused(t, s)
}

func TestTransactionsShareNothing(t *testing.T) {
	l := withRoom(txnIn("1a+0b"), write(2, 'B'))
	text, ok := impl.TxnText(l)
	if !ok || text != textByTrial(txnIn("1a+0b")) || !slices.Equal(l[:3], append(txnIn("1a+0b"), write(2, 'B'))) {
		t.Fatalf("TxnText: got %q %v, of %v", text, ok, l[:3])
	}
	spoil(l, write(9, 'q'))
	if text != textByTrial(txnIn("1a+0b")) {
		t.Error("the text changed with the list")
	}
	one, _ := impl.ReadTxn(text)
	spoil(one, write(9, 'q'))
	wantTxn(t, text, txnIn("1a+0b"))
}

// Steps from one store do not meet in its lists.
func TestTwoStepsFromOneStore(t *testing.T) {
	text := "ab|0c|0c ! 1d"
	s := roomyStore(text)
	one, okOne := impl.Commit(s, txnIn("0x"))
	two, okTwo := impl.Commit(s, txnIn("1y"))
	three, okThree := impl.WriteBack(s)
	four, okFour := impl.CheckpointLog(s)
	five, okFive := impl.CrashStore(s, []bool{false}, 2)
	wantStore(t, "the first", one, okOne, storeIn("ab|0c|0c ! 1d 0x"))
	wantStore(t, "the second", two, okTwo, storeIn("ab|0c|0c ! 1d 1y"))
	wantStore(t, "the third", three, okThree, storeIn("ab|0c 0c|0c ! 1d"))
	wantStore(t, "the fourth", four, okFour, storeIn("cb||! 1d"))
	wantStore(t, "the fifth", five, okFive, storeIn("ab||0c 1d !"))
	wantRoomyStore(t, "all five", s, text)
}

func TestNewStoresShareNothing(t *testing.T) {
	one, _ := impl.NewStore(3)
	spoil(one.Disk.Sectors, "spoilt")
	two, ok := impl.NewStore(3)
	wantStore(t, "the second", two, ok, impl.Store{Disk: newDevice(3)})
}
