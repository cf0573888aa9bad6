package impl

const (
	EdDropVersion = 1
	EdAddVersion  = 2
	EdDropExt     = 3
	EdSetVersion  = 4
	EdDropBack    = 5
	EdAddExt      = 6
	MaxEdits      = 6
)

type Edit struct {
	Kind int
	N    int
}

type Deal struct {
	Ok      bool
	Version int
	Tags    []int
}

func EditHello(h Hello, e Edit) Hello {
	return Hello{}
}

func EditAnswer(a Answer, e Edit) Answer {
	return Answer{}
}

func RunHandshake(h Hello, versions []int, tags []int, key int, edits []Edit) Deal {
	return Deal{}
}

func HonestDeal(h Hello, versions []int, tags []int, key int) Deal {
	return Deal{}
}

func EqualDeals(a Deal, b Deal) bool {
	return false
}
