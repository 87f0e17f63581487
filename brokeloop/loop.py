"""A loop of fibre: what is torn goes round as broke, what the wire does not keep goes round with the water."""

WHOLE = 1000
MOST_FIBRE = 1000000
MOST_FED = 100000


def share(amount, thousandths):
    """So many thousandths of an amount, rounded down."""
    return amount * thousandths // WHOLE


def tick(keep, lose, broke, w, r, a):
    """What one tick comes to: [sold, lost, in the water, in the broke], or [-22] where a number is above its bound."""
    if max(keep, lose, broke) > WHOLE or max(w, r) > MOST_FIBRE or a > MOST_FED:
        return [-22]
    fibre = a + w + r
    paper = share(fibre, keep)
    left = fibre - paper
    # Water and sold are what remains, not shares of their own: each rounding stays in the loop's sum.
    lost = share(left, lose)
    torn = share(paper, broke)
    return [paper - torn, lost, left - lost, torn]
