package purse

import "bigtop/api"

// work is a copy of a ledger on which an act is done.
type work struct {
	Ledger
	Act
}

// deed is what is asked of the numbers that an act names, and what is done then.
type deed struct {
	named func() bool
	do    func()
}

// demand leaves the act with the error, which after catches, if what must hold does not.
func demand(holds bool, e api.Errno) {
	if !holds {
		panic(e)
	}
}

// after is the ledger when the act is done. ErrFail, which no act has, is what a panic that is no refusal would leave.
func (l Ledger) after(a Act) (next Ledger, e api.Errno) {
	defer func() {
		switch left := recover().(type) {
		case nil:
		case api.Errno:
			e = left
		default:
			e = api.ErrFail
		}
	}()
	w := work{l.copied(), a}
	w.act()
	return w.Ledger, api.OK
}

func (w *work) act() {
	demand(isKind(w.Kind), api.ErrArg)
	d := w.deed()
	demand(d.named(), api.ErrRange)
	d.do()
	demand(w.isWithin(), api.ErrLimit)
}

func (w *work) deed() deed {
	deeds := [...]deed{
		Float:   {w.namesWindow, w.float},
		Sale:    {w.namesWindow, w.sell},
		Return:  {w.namesWindow, w.takeBack},
		Pack:    {w.namesNewBag, w.pack},
		Touch:   {w.namesNewSeal, w.touch},
		Open:    {w.namesBag, w.open},
		Deposit: {w.namesAmount, w.deposit},
		Wage:    {w.namesAmount, w.payWage},
	}
	return deeds[w.Kind]
}

func (w *work) namesAmount() bool { return w.Amount > 0 && isAmount(w.Amount) }

func (w *work) namesWindow() bool { return w.isWindow(w.Window) && w.namesAmount() }

func (w *work) namesNewBag() bool { return w.namesWindow() && isSeal(w.Seal) && isAmount(w.Written) }

func (w *work) namesBag() bool { return w.isBag(w.Bag) }

func (w *work) namesNewSeal() bool { return w.namesBag() && isSeal(w.Seal) && isAmount(w.Amount) }

func (w *work) window() *int { return &w.Windows[w.Window] }

func (w *work) bag() *Bag { return &w.Bags[w.Bag] }

// move brings an amount from one place to another; what goes out goes to Out.
func move(from, to *int, amount int) {
	demand(*from >= amount, api.ErrNone)
	*from -= amount
	*to += amount
}

func (w *work) float() { move(&w.Office, w.window(), w.Amount) }

func (w *work) sell() {
	*w.window() += w.Amount
	w.In += w.Amount
}

func (w *work) takeBack() { move(w.window(), &w.Out, w.Amount) }

func (w *work) pack() {
	demand(len(w.Bags) < api.MaxBags, api.ErrLimit)
	demand(!w.hasSeal(w.Seal), api.ErrTwice)
	b := Bag{Window: w.Window, Seal: w.Seal, Written: w.Written, Now: w.Seal}
	move(w.window(), &b.Holds, w.Amount)
	w.Bags = append(w.Bags, b)
}

func (w *work) touch() {
	b := w.bag()
	demand(!b.Opened, api.ErrState)
	demand(!w.hasSeal(w.Seal), api.ErrTwice)
	move(&b.Holds, &w.Out, w.Amount)
	b.Now = w.Seal
}

func (w *work) open() {
	b := w.bag()
	demand(!b.Opened, api.ErrState)
	if b.hasDiff() {
		w.Diffs = append(w.Diffs, Diff{Bag: w.Bag, Less: b.Written - b.Holds, Broken: b.isBroken()})
	}
	move(&b.Holds, &w.Office, b.Holds)
	b.Opened = true
}

func (w *work) deposit() { move(&w.Office, &w.Bank, w.Amount) }

func (w *work) payWage() { move(&w.Bank, &w.Out, w.Amount) }
