package agent

// adder returns what adds a line to an account: for some copies, and so much for each.
func (a *Account) adder() func(what, copies, each int) {
	return func(what, copies, each int) {
		line := Line{What: what, Copies: copies, Amount: copies * each}
		a.Lines = append(a.Lines, line)
		a.Sum += line.Amount
	}
}

// settle returns the account of an agent.
func (t Tariff) settle(h []Day, late []int) Account {
	supplied, inTime, tooLate := 0, 0, 0
	for i, d := range h {
		supplied += d.Supply
		inTime += d.Returned - late[i]
		tooLate += late[i]
	}
	var a Account
	add := a.adder()
	add(Supplied, supplied, t.Price)
	add(Returned, inTime, -t.Back)
	add(Late, tooLate, -t.Late)
	return a
}

// carry returns the account of a carrier.
func (t Tariff) carry(copies, complaints int) Account {
	var a Account
	add := a.adder()
	add(Carried, copies, t.Carry)
	add(Missed, complaints, -t.Credit)
	return a
}
