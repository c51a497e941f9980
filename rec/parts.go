package rec

import "pentimento/api"

// parts is whose a record of some kind may be, and what it has, beside that and the record ahead.
type parts struct {
	owned   bool // a transaction's
	nobodys bool
	roll    bool
	next    bool
	number  bool
	body    bool
	tables  bool
}

// partsOf: what a record of that kind has. What is of no kind has nothing, and is neither a transaction's nor nobody's, so that it may not be.
func partsOf(kind uint8) parts {
	switch kind {
	case api.RecBegin, api.RecEnd:
		return parts{owned: true}
	case api.RecOp:
		return parts{owned: true, roll: true, body: true}
	case api.RecClr:
		return parts{owned: true, next: true, body: true}
	case api.RecCommit:
		return parts{owned: true, number: true, body: true}
	case api.RecNest:
		return parts{owned: true, nobodys: true, body: true}
	case api.RecCheckBegin:
		return parts{nobodys: true}
	case api.RecCheckEnd:
		return parts{nobodys: true, tables: true}
	}
	return parts{}
}

// mayTx: whether it may be whose it is. What is nobody's has no record ahead.
func mayTx(r api.Rec, p parts) bool {
	if r.Tx == 0 {
		return p.nobodys && r.Prev == 0
	}
	return p.owned
}

// mayParts: whether what its kind has may be, and what its kind has not is zero.
func mayParts(r api.Rec, p parts) bool {
	return mayRoll(r.Roll, p.roll) &&
		(p.next || r.Next == 0) &&
		p.number == (r.Number > 0) &&
		p.body == (r.Body != "") &&
		len(r.Body) <= api.MaxBody &&
		mayTables(r.Tables, p.tables)
}

// mayRoll: whether it may be a record's that has one, or has none.
func mayRoll(at api.Roll, has bool) bool {
	if at.Page == 0 {
		return at.Slot == 0
	}
	return has
}

// mayTables: whether they may be a record's that has some, or has none.
func mayTables(t api.Tables, has bool) bool {
	if !has {
		return sameTables(t, api.Tables{})
	}
	return t.Tx > 0 && t.Number > 0 && mayDirty(t.Dirty) && mayTxns(t.Txns)
}

// mayDirty: whether a checkpoint may have these pages.
func mayDirty(ds []api.Dirty) bool {
	last := uint32(0)
	for _, d := range ds {
		if d.Page <= last || d.From == 0 {
			return false
		}
		last = d.Page
	}
	return len(ds) <= api.MaxTab
}

// mayTxns: whether a checkpoint may have these transactions.
func mayTxns(as []api.Active) bool {
	last := uint64(0)
	for _, a := range as {
		if a.Tx <= last || a.First == 0 || a.Last == 0 {
			return false
		}
		last = a.Tx
	}
	return len(as) <= api.MaxTab
}
