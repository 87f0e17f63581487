"""A loop of fibre: what is torn goes round as broke, what the wire does not keep goes round with the water."""

WHOLE = 1000
MOST_FIBRE = 1000000
MOST_FED = 100000
MOST_TICKS = 1000
STEADY_WITHIN = 1000


def share(amount, thousandths):
    """So many thousandths of an amount, rounded down."""
    return amount * thousandths // WHOLE


def above_bounds(keep, lose, broke, w, r, a):
    """Whether one of the numbers that a loop is handed in with is above its bound."""
    return max(keep, lose, broke) > WHOLE or max(w, r) > MOST_FIBRE or a > MOST_FED


def part_fibre(keep, lose, broke, fibre):
    """Where fibre that came together goes: [sold, lost, in the water, in the broke]."""
    paper = share(fibre, keep)
    left = fibre - paper
    # Water and sold are what remains, not shares of their own: each rounding stays in the loop's sum.
    lost = share(left, lose)
    torn = share(paper, broke)
    return [paper - torn, lost, left - lost, torn]


def tick(keep, lose, broke, w, r, a):
    """What one tick comes to: [sold, lost, in the water, in the broke], or [-22] where a number is above its bound."""
    if above_bounds(keep, lose, broke, w, r, a):
        return [-22]
    return part_fibre(keep, lose, broke, a + w + r)


def run(keep, lose, broke, w, r, a, n):
    """What n ticks come to: [sold in all, lost in all, in the water, in the broke], or [-22] as of tick."""
    if above_bounds(keep, lose, broke, w, r, a) or n > MOST_TICKS:
        return [-22]
    sold = 0
    lost = 0
    water = w
    torn = r
    for turn in range(n):
        # Not by tick, which would refuse a loop that has grown above what may be handed in.
        parts = part_fibre(keep, lose, broke, a + water + torn)
        sold += parts[0]
        lost += parts[1]
        water = parts[2]
        torn = parts[3]
    return [sold, lost, water, torn]


def steady(keep, lose, broke, a):
    """When an empty loop is first steady: [behind how many ticks, in the water, in the broke, sold, lost].

    [-22] as of tick; [-33] where it is not steady behind fewer than 1,000 ticks.
    """
    if above_bounds(keep, lose, broke, 0, 0, a):
        return [-22]
    water = 0
    torn = 0
    for ticks in range(STEADY_WITHIN):
        parts = part_fibre(keep, lose, broke, a + water + torn)
        if parts[2] == water and parts[3] == torn:
            # Of the tick that leaves the loop the same: the one ahead of it may have sold and lost less.
            return [ticks, water, torn, parts[0], parts[1]]
        water = parts[2]
        torn = parts[3]
    return [-33]
