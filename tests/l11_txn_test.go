package tests

import (
	"math"
	"slices"
	"strings"
	"testing"

	"loop.example/g00261/impl"
)

func TestConstantsOfTransactions(t *testing.T) {
	if impl.MaxTxnWrites != 8 {
		t.Error("MaxTxnWrites is not 8")
	}
}

// spread is so many writes to unlike sectors, from one on.
func spread(from int, many int, c byte) []impl.Write {
	var l []impl.Write
	for i := range many {
		l = append(l, write(from+i, c+byte(i)))
	}
	return l
}

// logged is a store of 32 sectors whose log has so many transactions of so many writes, none of them Synced.
func logged(many int, writes int) ledger {
	b := ledger{sectors: newDevice(impl.MaxSectors).Sectors}
	for i := range many {
		b = b.with(spread(i%4*8, writes, byte(i))...)
	}
	return b
}

func TestTxnTextByHand(t *testing.T) {
	for _, c := range []struct {
		l    []impl.Write
		want string
	}{
		{txnIn("0."), "\x01\x00" + blankSector + "\x01"},
		{txnIn("0a"), "\x01\x00aaaaaaaa\x01"},
		{txnIn("31a"), "\x01\x1faaaaaaaa\x1e"},
		{txnIn("2a+1b"), "\x02\x02aaaaaaaa\x01bbbbbbbb\x01"},
		{txnIn("1b+2a"), "\x02\x01bbbbbbbb\x02aaaaaaaa\x01"}, // in their order
		{[]impl.Write{{Sector: 3, Data: "\x80\xff\x00\x01abcd"}}, "\x01\x03\x80\xff\x00\x01abcd\x78"},
		{[]impl.Write{{Sector: 0, Data: "\xc3\xa9\xc3\xa9\xe2\x82\xacx"}}, "\x01\x00\xc3\xa9\xc3\xa9\xe2\x82\xacx\xb5"},
	} {
		got, ok := impl.TxnText(c.l)
		if !ok || got != c.want || textByTrial(c.l) != c.want {
			t.Errorf("TxnText of %q: got %q %v, want %q", c.l[0].Data, got, ok, c.want)
		}
		wantTxn(t, c.want, c.l)
	}
}

func wantTxn(t *testing.T, text string, want []impl.Write) {
	t.Helper()
	if got, ok := impl.ReadTxn(text); !ok || !slices.Equal(got, want) {
		t.Fatalf("ReadTxn of %q: got %v %v, want %v", text, got, ok, want)
	}
}

func wantNoTxn(t *testing.T, text string) {
	t.Helper()
	if got, ok := impl.ReadTxn(text); ok || len(got) != 0 {
		t.Fatalf("ReadTxn of %q: got %v %v, want the zero answer", text, got, ok)
	}
}

func wantNoText(t *testing.T, l []impl.Write) {
	t.Helper()
	if got, ok := impl.TxnText(l); ok || got != "" {
		t.Fatalf("TxnText of %v: got %q %v, want the zero answer", l, got, ok)
	}
}

// checkTxnText: a list has the text of its transaction, which reads as the list again, or none.
func checkTxnText(t *testing.T, l []impl.Write) {
	t.Helper()
	if !isTxnByTrial(l, 32) {
		wantNoText(t, l)
		return
	}
	text, ok := impl.TxnText(l)
	if !ok || text != textByTrial(l) || len(text) != 2+9*len(l) {
		t.Fatalf("TxnText of %v: got %q %v", l, text, ok)
	}
	wantTxn(t, text, l)
}

func TestTxnTextOfEachLength(t *testing.T) {
	for many := range impl.MaxTxnWrites + 1 {
		checkTxnText(t, spread(0, many, 'a'))
		checkTxnText(t, spread(impl.MaxSectors-many, many, 0xf8))
	}
	for _, l := range [][]impl.Write{nil, {}, spread(0, impl.MaxTxnWrites+1, 'a'), spread(0, 31, 'a'), spread(0, 257, 'a')} {
		wantNoText(t, l)
	}
}

func TestTxnTextOfEachSector(t *testing.T) {
	for sector := -2; sector <= impl.MaxSectors+1; sector++ {
		checkTxnText(t, []impl.Write{write(sector, 'a')})
		checkTxnText(t, []impl.Write{write(5, 'b'), write(sector, 'a')})
		checkTxnText(t, []impl.Write{write(sector, 'a'), write(5, 'b'), write(6, 'c')})
	}
	for _, sector := range []int{-1, impl.MaxSectors, 256, 257, -256, math.MaxInt, math.MinInt} {
		wantNoText(t, []impl.Write{write(sector, 'a')})
		wantNoText(t, []impl.Write{write(0, 'a'), write(sector, 'a')})
	}
}

func TestTxnTextOfDataOfEachLength(t *testing.T) {
	for long := range 20 {
		for _, c := range []string{"a", "\x00", "\xff"} {
			w := impl.Write{Sector: 1, Data: strings.Repeat(c, long)}
			checkTxnText(t, []impl.Write{w})
			checkTxnText(t, []impl.Write{write(0, 'x'), w, write(2, 'y')})
		}
	}
	wantNoText(t, []impl.Write{{Sector: 1, Data: strings.Repeat("a", impl.SectorSize-1)}})
	wantNoText(t, []impl.Write{{Sector: 1, Data: strings.Repeat("a", impl.SectorSize+1)}})
	wantNoText(t, []impl.Write{{Sector: 1, Data: "1234567ö"}})  // eight letters, nine bytes
	checkTxnText(t, []impl.Write{{Sector: 1, Data: "123456ö"}}) // seven letters, eight bytes
}

func TestTxnTextOfTwoWritesToOneSector(t *testing.T) {
	for _, text := range []string{"0a+0a", "0a+0b", "31a+31b", "0a+1b+0c", "0a+1b+2c+3d+4e+5f+6g+6h", "0a+1b+2c+3d+4e+5f+6g+0h"} {
		wantNoText(t, txnIn(text))
		wantNoTxn(t, textByTrial(txnIn(text)))
	}
}

func TestReadTxnOfTextsThatAreNone(t *testing.T) {
	one := "\x00aaaaaaaa"
	for _, text := range []string{
		"", "\x00", "\x01", "\x00\x00", "\x01\x01", "\x08", "\xff",
		withXor("\x00"), withXor("\x00" + one), withXor("\x02" + one), withXor("\x01" + one + "\x01bbbbbbbb"), withXor("\x01"),
		withXor("\x01\x20aaaaaaaa"), withXor("\x01\x80aaaaaaaa"), withXor("\x01\xffaaaaaaaa"),
		withXor("\x01" + one + "a"), withXor("\x01" + one[:8]), withXor("\x01" + one + "\x00"),
		"\x01" + one, "\x01" + one + "\x00", "\x01" + one + "\x01\x00", "1\x00aaaaaaaa1",
		textByTrial(spread(0, 9, 'a')), textByTrial(spread(0, 31, 'a')), textByTrial(nil), strings.Repeat("\x00", 11), strings.Repeat("\xff", 2+9*255),
		strings.Repeat("\x00", 100000), strings.Repeat("\xff", 100000),
	} {
		wantNoTxn(t, text)
	}
	wantTxn(t, withXor("\x01"+one), txnIn("0a"))
	wantTxn(t, withXor("\x01\x1faaaaaaaa"), txnIn("31a"))
}

// changedBytes are all texts that differ from one in one byte, or have one less or one more.
func changedBytes(text string) []string {
	var l []string
	for at := range len(text) {
		for x := 1; x < 256; x++ {
			b := []byte(text)
			b[at] ^= byte(x)
			l = append(l, string(b))
		}
		l = append(l, text[:at]+text[at+1:])
	}
	for at := range len(text) + 1 {
		for _, c := range []string{"\x00", "\x01", "a", "\xff"} {
			l = append(l, text[:at]+c+text[at:])
		}
	}
	return l
}

func TestReadTxnOfTextsWithOneByteChanged(t *testing.T) {
	for _, l := range [][]impl.Write{txnIn("0."), txnIn("31a"), txnIn("1a+0b"), spread(0, 8, 0xfe), spread(24, 8, 'a')} {
		for _, text := range changedBytes(textByTrial(l)) {
			wantNoTxn(t, text)
		}
	}
}

// With a right xor behind it a changed byte of the data or of the sector makes another transaction.
func TestReadTxnOfAnotherTransaction(t *testing.T) {
	for _, l := range [][]impl.Write{txnIn("0."), txnIn("31a"), txnIn("1a+0b"), spread(0, 8, 0xfe)} {
		text := textByTrial(l)
		for at := range len(text) - 1 {
			for _, x := range []byte{1, 2, 0x1f, 0x20, 0x80, 0xff} {
				b := []byte(text[:len(text)-1])
				b[at] ^= x
				other := slices.Clone(l)
				if at == 0 {
					wantNoTxn(t, withXor(string(b)))
					continue
				}
				w := (at - 1) / 9
				other[w] = impl.Write{Sector: int(b[1+9*w]), Data: string(b[2+9*w : 10+9*w])}
				if isTxnByTrial(other, 32) {
					wantTxn(t, withXor(string(b)), other)
				} else {
					wantNoTxn(t, withXor(string(b)))
				}
			}
		}
	}
}

func TestNewStore(t *testing.T) {
	for _, sectors := range []int{1, 2, 31, impl.MaxSectors} {
		got, ok := impl.NewStore(sectors)
		wantStore(t, "NewStore", got, ok, impl.Store{Disk: newDevice(sectors)})
		wantView(t, "a new store", got, newDevice(sectors).Sectors)
	}
	for _, sectors := range []int{0, -1, impl.MaxSectors + 1, math.MaxInt, math.MinInt} {
		got, ok := impl.NewStore(sectors)
		wantNoStore(t, "NewStore", got, ok)
	}
}

// goodStoreTexts are stores that are good, each in its own way.
func goodStoreTexts() []string {
	return []string{
		".||", "ab||", "ab||0c", "ab||0c !", "ab||0c+1d !", "ab||0c+1d ! 0e", "ab||! 0c 1d", "ab||0c 0d ! 0e",
		"ab|0c|0c !", "ab|0c 0c 0c|0c !", "ab|1d|0c+1d !", "ab|1d 0c|0c+1d ! 1e", "ab|0c|0c ! 0d", "ab|0d 0c|0c 0d !", "ab|0c|0c 0d !", "ab|0d|0c 0d !",
		"ab|0c|0c 0c ! 0c", "..|0.|0. !", "ab|0a|0a !", "abcd|3e 1f|1f 0g+3e+2h ! 1i",
	}
}

func TestGoodStores(t *testing.T) {
	for _, text := range goodStoreTexts() {
		if !impl.GoodStore(storeIn(text)) {
			t.Errorf("%s is not good", text)
		}
	}
	full := logged(40, 8).withSync(40).withPending(spread(0, 8, 0)...).withPending(manyTimes(52, write(0, 4))...)
	if len(full.pending) != impl.MaxPending || len(full.log) != 40 || !impl.GoodStore(full.store()) {
		t.Error("a store that is full is not good")
	}
	empty := impl.Store{Disk: impl.Device{Sectors: newDevice(1).Sectors, Pending: []impl.Write{}}, Log: []string{}}
	if !impl.GoodStore(empty) {
		t.Error("lists that are empty and not nil are not good")
	}
}

func manyTimes(many int, w impl.Write) []impl.Write {
	return slices.Repeat([]impl.Write{w}, many)
}

func TestGoodStoreOfEachSynced(t *testing.T) {
	for many := range 4 {
		b := logged(many, 2)
		for _, synced := range []int{-1, 0, 1, 2, 3, 4, 5, math.MaxInt, math.MinInt} {
			if got := impl.GoodStore(b.withSync(synced).store()); got != (synced >= 0 && synced <= many) {
				t.Errorf("GoodStore of %d texts, %d of them Synced: got %v", many, synced, got)
			}
		}
	}
}

func TestGoodStoreOfFullLogs(t *testing.T) {
	for _, many := range []int{39, 40} {
		for _, synced := range []int{0, many - 1, many} {
			if !impl.GoodStore(logged(many, 1).withSync(synced).store()) {
				t.Errorf("%d texts, %d Synced: not good", many, synced)
			}
		}
	}
	for _, many := range []int{41, 42, 1000} {
		for _, synced := range []int{0, 40, many} {
			if impl.GoodStore(logged(many, 1).withSync(synced).store()) {
				t.Errorf("%d texts, %d Synced: good", many, synced)
			}
		}
	}
}

// One of a Synced transaction is good; one of another, of none, or with another's Data is not.
func TestGoodStoreOfPendingWrites(t *testing.T) {
	for text, want := range map[string]bool{
		"abc|0d|0d+1e ! 2f": true, "abc|1e|0d+1e ! 2f": true, "abc|1e 0d 1e|0d+1e ! 2f": true,
		"abc|2f|0d+1e ! 2f": false, "abc|2g|0d+1e ! 2f": false, "abc|0f|0d+1e ! 2f": false,
		"abc|0g|0d+1e ! 2f": false, "abc|1d|0d+1e ! 2f": false, "abc|2d|0d+1e ! 2f": false,
		"abc|0d 2f|0d+1e ! 2f": false, "abc|0d 2f|0d+1e 2f !": true, "abc|0d|! 0d+1e 2f": false, "abc|0d|": false, "abc|0a|": false, "abc|0a|! 1a": false,
		"abc|0d|2f 0d !": true, "abc|0d|2f ! 0d": false, "abc|0d|0d ! 0d": true, "abc|0d|0e 0d !": true, "abc|0d|0e ! 0d": false,
	} {
		if got := impl.GoodStore(storeIn(text)); got != want {
			t.Errorf("GoodStore of %s: got %v", text, got)
		}
	}
}

func TestGoodStoreOfSectorsBeyond(t *testing.T) {
	for sectors := 1; sectors <= impl.MaxSectors; sectors++ {
		b := ledger{sectors: newDevice(sectors).Sectors}
		for sector := range impl.MaxSectors {
			for _, c := range []ledger{b.with(write(sector, 'a')), b.with(write(0, 'b')).with(write(sector, 'a')).withSync(1), b.with(write(sector, 'a')).withSync(1)} {
				if got := impl.GoodStore(c.store()); got != (sector < sectors) {
					t.Fatalf("GoodStore of %d sectors, one writes to %d: got %v", sectors, sector, got)
				}
			}
		}
	}
}

func TestCommitByHand(t *testing.T) {
	for _, c := range []struct{ before, txn, want string }{
		{"..||", "0a", "..||! 0a"}, {"..||", "1a+0b", "..||! 1a+0b"}, {"ab||0c !", "0d", "ab||0c ! 0d"},
		{"ab|0c|0c !", "0d+1e", "ab|0c|0c ! 0d+1e"}, {"ab||0c ! 0d", "0d", "ab||0c ! 0d 0d"}, {"ab||", "0a", "ab||! 0a"},
	} {
		got, ok := impl.Commit(storeIn(c.before), txnIn(c.txn))
		wantStore(t, "Commit to "+c.before, got, ok, storeIn(c.want))
	}
	for _, txn := range []string{"", "0a+0a", "0a+0b", "0a+1b+0c", "2a", "0a+2b", "2a+0b", "-1a", "32a"} {
		for _, before := range []string{"..||", "ab|0c|0c ! 1d"} {
			got, ok := impl.Commit(storeIn(before), txnIn(txn))
			wantNoStore(t, "Commit of "+txn, got, ok)
		}
	}
	for sectors := 1; sectors <= impl.MaxSectors; sectors++ {
		b := ledger{sectors: newDevice(sectors).Sectors}
		for sector := -1; sector <= sectors+1; sector++ {
			checkCommit(t, b, []impl.Write{write(sector, 'a')})
		}
		checkCommit(t, b, spread(0, sectors, 'a'))
		checkCommit(t, b, spread(max(0, sectors-8), min(sectors, 8), 'a'))
		checkCommit(t, b, spread(max(0, sectors-7), 8, 'a'))
	}
}

func TestCommitToAFullLog(t *testing.T) {
	for _, synced := range []int{0, 39} {
		b := logged(39, 1).withSync(synced)
		got, ok := impl.Commit(b.store(), txnIn("0a"))
		b = b.with(write(0, 'a'))
		wantStore(t, "the text 40", got, ok, b.store())
		got, ok = impl.Commit(b.store(), txnIn("0a"))
		wantNoStore(t, "the text 41", got, ok)
		for _, synced = range []int{40, 20} {
			got, ok = impl.Commit(b.withSync(synced).store(), txnIn("0a"))
			wantNoStore(t, "the text 41", got, ok)
		}
	}
}

func TestSyncLogByHand(t *testing.T) {
	for before, want := range map[string]string{
		".||": ".||", "ab||0c !": "ab||0c !", "ab||! 0c": "ab||0c !", "ab|0c|0c ! 1d 0e": "ab|0c|0c 1d 0e !", "ab|0c|0c 1d !": "ab|0c|0c 1d !",
	} {
		got, ok := impl.SyncLog(storeIn(before))
		wantStore(t, "SyncLog of "+before, got, ok, storeIn(want))
	}
	checkSyncLog(t, logged(40, 8))
	checkSyncLog(t, logged(40, 8).withSync(40))
}

func TestWriteBackByHand(t *testing.T) {
	for before, want := range map[string]string{
		".||": ".||", "ab||! 0c": "ab||! 0c", "ab||0c+1d !": "ab|0c 1d|0c+1d !", "ab||1d+0c !": "ab|1d 0c|1d+0c !",
		"ab||0c 1d+0e ! 0f": "ab|0c 1d 0e|0c 1d+0e ! 0f", "ab|0c|0c !": "ab|0c 0c|0c !", "ab|0e|0c 1d+0e !": "ab|0e 0c 1d 0e|0c 1d+0e !",
		"ab||0a !": "ab|0a|0a !", "ab||0c 0c !": "ab|0c 0c|0c 0c !",
	} {
		got, ok := impl.WriteBack(storeIn(before))
		wantStore(t, "WriteBack of "+before, got, ok, storeIn(want))
	}
}

func TestWriteBackAtTheLimit(t *testing.T) {
	exact := logged(7, 8).with(spread(8, 4, 'x')...).withSync(8)
	got, ok := impl.WriteBack(exact.store())
	wantStore(t, "60 writes", got, ok, exact.withPending(exact.writes(8)...).store())
	if len(got.Disk.Pending) != impl.MaxPending {
		t.Errorf("%d writes are pending", len(got.Disk.Pending))
	}
	got, ok = impl.WriteBack(got)
	wantNoStore(t, "60 writes again", got, ok)
	beyond := logged(7, 8).with(spread(8, 5, 'x')...).withSync(8)
	got, ok = impl.WriteBack(beyond.store())
	wantNoStore(t, "61 writes", got, ok)
	checkWriteBack(t, beyond.withSync(7))
	for writes := 29; writes <= 31; writes++ { // twice in a row
		b := logged(3, 8).with(spread(0, writes-24, 'x')...).withSync(4)
		b = checkWriteBack(t, b)
		got, ok = impl.WriteBack(b.store())
		if writes > 30 {
			wantNoStore(t, "twice, beyond", got, ok)
			continue
		}
		wantStore(t, "twice", got, ok, b.withPending(b.writes(4)...).store())
	}
	full := logged(40, 1).withSync(40).withPending(manyTimes(20, write(0, 0))...)
	checkWriteBack(t, full)
	got, ok = impl.WriteBack(full.withPending(write(0, 0)).store())
	wantNoStore(t, "21 and 40", got, ok)
}

func TestCheckpointLogByHand(t *testing.T) {
	for _, c := range []struct{ what, before, want string }{
		{"nothing logged", "ab||", "ab||"},
		{"nothing Synced", "ab||! 0c 1d", "ab||! 0c 1d"},
		{"WriteBack was", "ab|0c 1d|0c+1d !", "cd||"},
		{"WriteBack was twice", "ab|0c 1d 0c 1d|0c+1d !", "cd||"},
		{"WriteBack was, others stay", "ab|0c 1d|0c+1d ! 0e", "cd||! 0e"},
		{"the device has it already", "cd||0c+1d !", "cd||"},
		{"it has a part already", "cb|1d|0c+1d !", "cd||"},
		{"it has one of two already", "cb|1d|0c 1d ! 1e", "cd||! 1e"},
		{"a later one writes the same sector", "ab|0d|0c 0d !", "db||"},
		{"a later one writes the same sector, which has that already", "db||0c 0d !", "db||"},
		{"a later one that was written back, and more", "ab|0c 1e 0d|0c+1e 0d !", "de||"},
		{"the blank sector is written", "..||0. !", "..||"},
		{"one sector twice, the last counts", "ab|0c 0d|0c 0d ! 0c", "db||! 0c"},
	} {
		got, ok := impl.CheckpointLog(storeIn(c.before))
		wantStore(t, c.what, got, ok, storeIn(c.want))
		checkCheckpoint(t, ledgerIn(c.before))
	}
	for what, before := range map[string]string{
		"WriteBack was not": "ab||0c+1d !", "in part": "ab|0c|0c+1d !", "in the other part": "ab|1d|0c+1d !", "of one of two": "ab|0c|0c 1d !",
		"of the first of two to one sector": "ab|0c|0c 0d !", "the first has it already": "cb||0c 0d !", "in the wrong order": "ab|0d 0c|0c 0d !",
		"it has what one that is not Synced writes": "db||0c ! 0d", "not of one": "ab||0c ! 1d", "a part alone is there": "cb||0c+1d !",
		"it had it and a pending write undoes it": "db|0c|0c 0d !",
	} {
		got, ok := impl.CheckpointLog(storeIn(before))
		wantNoStore(t, what, got, ok)
		checkCheckpoint(t, ledgerIn(before))
	}
}

func TestCrashStoreByHand(t *testing.T) {
	before := storeIn("ab|0c 1d|0c+1d ! 0e 1f")
	for _, c := range []struct {
		keep []bool
		log  int
		want string
	}{
		{[]bool{false, false}, 1, "ab||0c+1d !"}, {[]bool{true, false}, 1, "cb||0c+1d !"}, {[]bool{false, true}, 1, "ad||0c+1d !"}, {[]bool{true, true}, 1, "cd||0c+1d !"},
		{[]bool{false, false}, 2, "ab||0c+1d 0e !"}, {[]bool{true, false}, 3, "cb||0c+1d 0e 1f !"},
	} {
		got, ok := impl.CrashStore(before, c.keep, c.log)
		wantStore(t, c.want, got, ok, storeIn(c.want))
	}
	for _, log := range []int{-1, 0, 4, math.MaxInt, math.MinInt} {
		got, ok := impl.CrashStore(before, []bool{true, true}, log)
		wantNoStore(t, "a log that may not be", got, ok)
	}
	for _, keep := range [][]bool{nil, {}, {true}, {true, true, true}, make([]bool, 1000)} {
		for log := 1; log <= 3; log++ {
			got, ok := impl.CrashStore(before, keep, log)
			wantNoStore(t, "keeps of another device", got, ok)
		}
	}
	got, ok := impl.CrashStore(storeIn("ab||"), nil, 0)
	wantStore(t, "a store with nothing to lose", got, ok, storeIn("ab||"))
	got, ok = impl.CrashStore(storeIn("ab||! 0c 1d"), []bool{}, 0)
	wantStore(t, "all of the log is lost", got, ok, storeIn("ab||"))
}

func TestCrashStoreOfEachLog(t *testing.T) {
	for _, many := range []int{0, 1, 2, 39, 40} {
		for _, synced := range []int{0, many / 2, many} {
			b := logged(many, 1).withSync(synced)
			for _, log := range []int{-1, 0, synced - 1, synced, synced + 1, many - 1, many, many + 1, 41} {
				checkCrash(t, b, nil, log)
				checkCrash(t, b, []bool{true}, log)
			}
		}
	}
}

func TestRecoverStoreByHand(t *testing.T) {
	for before, want := range map[string]string{
		"ab||": "ab||", "ab||0c !": "cb||", "ab||0c 0d !": "db||", "ab||0d 0c !": "cb||", "ab|0c|0c 0d !": "db||", "ab|0d 0c|0c 0d !": "db||",
		"ab|0c|0c+1d !": "cd||", "ab||0c+1d 1e 0f !": "fe||", "ab||0a !": "ab||", "cd||0c+1d !": "cd||",
	} {
		got, ok := impl.RecoverStore(storeIn(before))
		wantStore(t, "RecoverStore of "+before, got, ok, storeIn(want))
	}
	for _, before := range []string{"ab||! 0c", "ab||0c ! 1d", "ab|0c|0c ! 1d", "ab||0c 1d ! 0e", "ab||! 0a"} {
		got, ok := impl.RecoverStore(storeIn(before))
		wantNoStore(t, "RecoverStore of "+before, got, ok)
	}
	for _, b := range []ledger{logged(8, 8).withSync(8), logged(40, 8).withSync(40), logged(40, 8).withSync(40).withPending(manyTimes(60, write(8, 1))...)} {
		if len(b.pending)+len(b.writes(b.synced)) <= impl.MaxPending {
			t.Fatal("not more writes than may be pending")
		}
		got, ok := impl.RecoverStore(b.store())
		wantStore(t, "more writes than may be pending", got, ok, ledger{sectors: b.view()}.store())
	}
	for _, synced := range []int{0, 39} {
		got, ok := impl.RecoverStore(logged(40, 8).withSync(synced).store())
		wantNoStore(t, "not all is Synced", got, ok)
	}
}

func TestViewOfByHand(t *testing.T) {
	for text, want := range map[string]string{
		".||": ".", "ab||": "ab", "ab||! 0c": "cb", "ab||0c !": "cb", "ab|0c|0c !": "cb", "ab|0c|0c ! 0d": "db", "ab|0c|0c 0d !": "db",
		"ab|0d 0c|0c 0d !": "db", "ab|0c|0c ! 0d 0e": "eb", "ab||! 0c+1d 1e": "ce", "ab|1d|0c+1d ! 1b": "cb", "ab||! 0c 0a": "ab",
	} {
		wantView(t, text, storeIn(text), ledgerIn(want+"||").sectors)
	}
	full := logged(40, 8)
	wantView(t, "a full log", full.store(), full.view())
	for _, text := range []string{"ab|0c|", "ab|0c|! 0c", "ab|0d|0c !", "ab||! 2c", "ab||! 0c+0c"} {
		if got, ok := impl.ViewOf(storeIn(text)); ok || len(got) != 0 {
			t.Errorf("ViewOf of %s: got %q %v, want the zero answer", text, got, ok)
		}
	}
}

// A row of steps as the chapter means it: ahead of what is written back the log is Synced, then it leaves the log.
func TestTheWholeWay(t *testing.T) {
	s, ok := impl.NewStore(3)
	wantStore(t, "new", s, ok, storeIn("...||"))
	s, ok = impl.Commit(s, txnIn("0a+1b"))
	wantStore(t, "committed", s, ok, storeIn("...||! 0a+1b"))
	s, ok = impl.SyncLog(s)
	wantStore(t, "synced", s, ok, storeIn("...||0a+1b !"))
	s, ok = impl.Commit(s, txnIn("1c+2d"))
	wantStore(t, "committed again", s, ok, storeIn("...||0a+1b ! 1c+2d"))
	s, ok = impl.WriteBack(s)
	wantStore(t, "written back", s, ok, storeIn("...|0a 1b|0a+1b ! 1c+2d"))
	crashed, ok := impl.CrashStore(s, []bool{false, true}, 1)
	wantStore(t, "crashed", crashed, ok, storeIn(".b.||0a+1b !"))
	back, ok := impl.RecoverStore(crashed)
	wantStore(t, "recovered", back, ok, storeIn("ab.||"))
	s, ok = impl.CheckpointLog(s)
	wantStore(t, "left the log", s, ok, storeIn("ab.||! 1c+2d"))
	wantView(t, "at the end", s, ledgerIn("acd||").sectors)
}
