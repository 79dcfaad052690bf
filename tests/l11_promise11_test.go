package tests

import (
	"slices"
	"strings"
	"testing"

	"loop.example/g00261/impl"
)

// ledger is a store whose transactions are still lists of writes.
type ledger struct {
	sectors []string
	pending []impl.Write
	log     [][]impl.Write
	synced  int
}

// plainByte is the byte that a letter stands for: '.' is 0.
func plainByte(c byte) byte {
	if c == '.' {
		return 0
	}
	return c
}

// writesIn reads writes, each a sector's number and the letter of all its bytes.
func writesIn(text string, between string) []impl.Write {
	var l []impl.Write
	for _, word := range strings.FieldsFunc(text, func(c rune) bool { return strings.ContainsRune(between, c) }) {
		end := len(word) - 1
		l = append(l, write(numberIn(word[:end]), plainByte(word[end])))
	}
	return l
}

func txnIn(text string) []impl.Write {
	return writesIn(text, "+")
}

// ledgerIn reads the letters of sectors, the pending writes and the transactions, with '|' between. Those ahead of '!' are Synced.
func ledgerIn(text string) ledger {
	parts := strings.Split(text, "|")
	var b ledger
	for i := range len(parts[0]) {
		b.sectors = append(b.sectors, sectorOf(plainByte(parts[0][i])))
	}
	b.pending = writesIn(parts[1], " ")
	for _, word := range strings.Fields(parts[2]) {
		if word == "!" {
			b.synced = len(b.log)
			continue
		}
		b.log = append(b.log, txnIn(word))
	}
	return b
}

func storeIn(text string) impl.Store {
	return ledgerIn(text).store()
}

// textByTrial writes out any list, also one that is no transaction.
func textByTrial(l []impl.Write) string {
	text := string([]byte{byte(len(l))})
	for _, w := range l {
		text += string([]byte{byte(w.Sector)}) + w.Data
	}
	return withXor(text)
}

// withXor is a text and the byte behind it that makes the xor of all 0.
func withXor(text string) string {
	last := 0
	for i := range len(text) {
		last ^= int(text[i])
	}
	return text + string([]byte{byte(last)})
}

func isTxnByTrial(l []impl.Write, sectors int) bool {
	written := map[int]int{}
	for _, w := range l {
		if w.Sector < 0 || w.Sector >= sectors || len(w.Data) != 8 {
			return false
		}
		written[w.Sector]++
	}
	return len(l) >= 1 && len(l) <= 8 && len(written) == len(l)
}

func (b ledger) device() impl.Device {
	return impl.Device{Sectors: slices.Clone(b.sectors), Pending: slices.Clone(b.pending)}
}

func (b ledger) store() impl.Store {
	s := impl.Store{Disk: b.device(), Synced: b.synced}
	for _, l := range b.log {
		s.Log = append(s.Log, textByTrial(l))
	}
	return s
}

// view does each write by itself, the pending ones first.
func (b ledger) view() []string {
	return doneOn(b.sectors, append(slices.Clone(b.pending), b.writes(len(b.log))...))
}

// writes are those of the first transactions.
func (b ledger) writes(many int) []impl.Write {
	var all []impl.Write
	for _, l := range b.log[:many] {
		all = append(all, l...)
	}
	return all
}

func (b ledger) with(l ...impl.Write) ledger {
	b.log = append(slices.Clone(b.log), l)
	return b
}

func (b ledger) withSync(many int) ledger {
	b.synced = many
	return b
}

func (b ledger) withPending(l ...impl.Write) ledger {
	b.pending = append(slices.Clone(b.pending), l...)
	return b
}

func sameStore(a impl.Store, b impl.Store) bool {
	return sameDevice(a.Disk, b.Disk) && slices.Equal(a.Log, b.Log) && a.Synced == b.Synced
}

func wantStore(t *testing.T, what string, got impl.Store, ok bool, want impl.Store) {
	t.Helper()
	if !ok || !sameStore(got, want) || !impl.GoodStore(got) {
		t.Fatalf("%s: got %#v %v, want %#v", what, got, ok, want)
	}
}

func wantNoStore(t *testing.T, what string, got impl.Store, ok bool) {
	t.Helper()
	if ok || !sameStore(got, impl.Store{}) {
		t.Fatalf("%s: got %#v %v, want the zero answer", what, got, ok)
	}
}

func wantView(t *testing.T, what string, s impl.Store, want []string) {
	t.Helper()
	if got, ok := impl.ViewOf(s); !ok || !slices.Equal(got, want) {
		t.Fatalf("%s: ViewOf of %#v: got %q %v, want %q", what, s, got, ok, want)
	}
}

func checkCommit(t *testing.T, b ledger, l []impl.Write) ledger {
	t.Helper()
	got, ok := impl.Commit(b.store(), l)
	if !isTxnByTrial(l, len(b.sectors)) || len(b.log) == 40 {
		wantNoStore(t, "Commit", got, ok)
		return b
	}
	wantStore(t, "Commit", got, ok, b.with(l...).store())
	wantView(t, "Commit changes what it writes", got, doneOn(b.view(), l))
	return b.with(l...)
}

func checkSyncLog(t *testing.T, b ledger) ledger {
	t.Helper()
	got, ok := impl.SyncLog(b.store())
	next := b.withSync(len(b.log))
	wantStore(t, "SyncLog", got, ok, next.store())
	wantView(t, "SyncLog changes nothing", got, b.view())
	return next
}

func checkWriteBack(t *testing.T, b ledger) ledger {
	t.Helper()
	got, ok := impl.WriteBack(b.store())
	next := b.withPending(b.writes(b.synced)...)
	if len(next.pending) > 60 {
		wantNoStore(t, "WriteBack", got, ok)
		return b
	}
	wantStore(t, "WriteBack", got, ok, next.store())
	wantView(t, "WriteBack changes nothing", got, b.view())
	return next
}

func checkCheckpoint(t *testing.T, b ledger) ledger {
	t.Helper()
	got, ok := impl.CheckpointLog(b.store())
	flushed := doneOn(b.sectors, b.pending)
	if !slices.Equal(flushed, doneOn(flushed, b.writes(b.synced))) {
		wantNoStore(t, "CheckpointLog", got, ok)
		return b
	}
	next := ledger{sectors: flushed, log: b.log[b.synced:]}
	wantStore(t, "CheckpointLog", got, ok, next.store())
	wantView(t, "CheckpointLog changes nothing", got, b.view())
	return next
}

func checkRecover(t *testing.T, b ledger) ledger {
	t.Helper()
	got, ok := impl.RecoverStore(b.store())
	if b.synced < len(b.log) {
		wantNoStore(t, "RecoverStore", got, ok)
		return b
	}
	next := ledger{sectors: b.view()}
	wantStore(t, "RecoverStore", got, ok, next.store())
	wantView(t, "RecoverStore changes nothing", got, b.view())
	return next
}

// checkCrash: what is recovered behind the crash is what the device had and all of the first transactions, and nothing of the others.
func checkCrash(t *testing.T, b ledger, keep []bool, log int) ledger {
	t.Helper()
	got, ok := impl.CrashStore(b.store(), keep, log)
	if len(keep) != len(b.pending) || log < b.synced || log > len(b.log) {
		wantNoStore(t, "CrashStore", got, ok)
		return b
	}
	next := ledger{sectors: slices.Clone(b.sectors), log: b.log[:log], synced: log}
	for i, w := range b.pending {
		if keep[i] {
			next.sectors[w.Sector] = w.Data
		}
	}
	wantStore(t, "CrashStore", got, ok, next.store())
	// None of the writes that were pending is asked for here: each of them is done again.
	want := doneOn(b.sectors, b.writes(log))
	wantView(t, "behind a crash", got, want)
	back, ok := impl.RecoverStore(got)
	wantStore(t, "recovered behind a crash", back, ok, ledger{sectors: want}.store())
	wantView(t, "recovered behind a crash", back, want)
	return next
}

// someKeeps are all keeps of so many writes, or some where they are many.
func someKeeps(s *steps, many int) [][]bool {
	if many <= 4 {
		return rowsOf(many, false, true)
	}
	l := [][]bool{make([]bool, many), slices.Repeat([]bool{true}, many)}
	for range 6 {
		keep := make([]bool, many)
		for i := range keep {
			keep[i] = s.below(2) == 0
		}
		l = append(l, keep)
	}
	return l
}

// checkLedger: all that is promised of one good store, whichever step or crash comes next.
func checkLedger(t *testing.T, s *steps, b ledger) {
	t.Helper()
	if !impl.GoodStore(b.store()) {
		t.Fatalf("not good: %#v", b.store())
	}
	wantView(t, "as it is", b.store(), b.view())
	checkSyncLog(t, b)
	checkWriteBack(t, b)
	checkCheckpoint(t, b)
	checkRecover(t, b)
	for _, keep := range someKeeps(s, len(b.pending)) {
		for log := b.synced - 1; log <= len(b.log)+1; log++ {
			checkCrash(t, b, keep, log)
		}
	}
}

// stepsOfStores are the names of what can be done to a store of two sectors, crashes among them.
func stepsOfStores() []string {
	return []string{"0a", "0b+1c", "1a+0.", "sync", "back", "check", "lose", "keep"}
}

// didStep does one step of those names, and checks it.
func didStep(t *testing.T, b ledger, step string) ledger {
	t.Helper()
	switch step {
	case "sync":
		return checkSyncLog(t, b)
	case "back":
		return checkWriteBack(t, b)
	case "check":
		return checkCheckpoint(t, b)
	case "lose": // the log as short, and as little of the pending writes as may be
		return checkRecover(t, checkCrash(t, b, make([]bool, len(b.pending)), b.synced))
	case "keep": // the first of the pending writes, and all of the log
		keep := make([]bool, len(b.pending))
		for i := range keep {
			keep[i] = i == 0
		}
		return checkCrash(t, b, keep, len(b.log))
	}
	return checkCommit(t, b, txnIn(step))
}

func TestStoresOfFewStepsInAllWays(t *testing.T) {
	s := steps(11)
	for _, row := range rowsOf(5, stepsOfStores()...) {
		b := ledgerIn("..||")
		for _, step := range row {
			b = didStep(t, b, step)
		}
		checkLedger(t, &s, b)
	}
}

// someTxn has no two writes to one sector, some of bytes above 127.
func someTxn(s *steps, sectors int, most int) []impl.Write {
	var l []impl.Write
	for _, sector := range someOrder(s, sectors)[:1+s.below(min(sectors, most))] {
		l = append(l, impl.Write{Sector: sector, Data: string(someBytes(s, 8))})
	}
	return l
}

// What was committed is told by the test's own book of transactions, which knows nothing of pending writes.
func TestARowOfStoreSteps(t *testing.T) {
	for sectors := 1; sectors <= impl.MaxSectors; sectors++ {
		s := steps(1100 + sectors)
		b := ledger{sectors: newDevice(sectors).Sectors}
		had := b.sectors
		for range 120 {
			before := b
			switch s.below(9) {
			case 0:
				b = checkSyncLog(t, b)
			case 1, 2:
				b = checkWriteBack(t, b)
			case 3:
				b = checkCheckpoint(t, b)
				had = doneOn(had, before.writes(len(before.log)-len(b.log)))
			case 4:
				if s.below(4) == 0 {
					keeps := someKeeps(&s, len(b.pending))
					log := b.synced + s.below(len(b.log)-b.synced+1)
					had = doneOn(had, b.writes(log))
					b = checkRecover(t, checkCrash(t, b, keeps[s.below(len(keeps))], log))
				}
			default:
				b = checkCommit(t, b, someTxn(&s, sectors, 8))
			}
			if !slices.Equal(b.view(), doneOn(had, b.writes(len(b.log)))) {
				t.Fatalf("%#v does not tell what was committed", b.store())
			}
			wantView(t, "behind a step", b.store(), b.view())
		}
		checkLedger(t, &s, b)
	}
}

// someLedger is a good store that perhaps no row of steps leads to: any writes of Synced transactions are pending, in any order.
func someLedger(s *steps, sectors int, most int) ledger {
	b := ledger{sectors: someDevice(s, sectors, 0).Sectors}
	for range s.below(most + 1) {
		b = b.with(someTxn(s, sectors, 8)...)
	}
	b.synced = s.below(len(b.log) + 1)
	if all := b.writes(b.synced); len(all) > 0 {
		for range s.below(impl.MaxPending + 1) {
			b = b.withPending(all[s.below(len(all))])
		}
	}
	return b
}

func TestStoresInNoOrder(t *testing.T) {
	s := steps(111)
	for range 400 {
		most := []int{0, 1, 3, 40}[s.below(4)]
		checkLedger(t, &s, someLedger(&s, 1+s.below(impl.MaxSectors), most))
	}
}

// However many of the pending writes a crash keeps: all of a transaction is there, or nothing of it.
func TestATransactionIsWholeOrNotAtAll(t *testing.T) {
	b := ledgerIn("abcd||").with(txnIn("0e+1f+2g+3h")...).with(txnIn("0i+3j")...)
	whole := [][]string{ledgerIn("abcd||").sectors, ledgerIn("efgh||").sectors, ledgerIn("ifgj||").sectors}
	for synced := range 3 {
		b := checkWriteBack(t, b.withSync(synced))
		for _, keep := range rowsOf(len(b.pending), false, true) {
			for log := synced; log <= 2; log++ {
				crashed, _ := impl.CrashStore(b.store(), keep, log)
				back, ok := impl.RecoverStore(crashed)
				wantStore(t, "recovered", back, ok, ledger{sectors: whole[log]}.store())
			}
		}
	}
}

// A recovered store goes on: what is committed to it is whole or not at all, too.
func TestWhatIsRecoveredGoesOn(t *testing.T) {
	s := steps(1111)
	for range 60 {
		b := ledger{sectors: newDevice(1 + s.below(8)).Sectors}
		for range 5 {
			for range s.below(5) {
				b = checkCommit(t, b, someTxn(&s, len(b.sectors), 3))
			}
			b = checkWriteBack(t, checkSyncLog(t, b))
			b = checkCommit(t, b, someTxn(&s, len(b.sectors), 8))
			for _, keep := range someKeeps(&s, len(b.pending)) {
				checkCrash(t, b, keep, len(b.log)-1)
			}
			keeps := someKeeps(&s, len(b.pending))
			b = checkRecover(t, checkCrash(t, b, keeps[s.below(len(keeps))], len(b.log)-s.below(2)))
		}
	}
}
