"""What the tests of tick, run and steady all need: the numbers handed in, their bounds, and checks of any answer."""

import itertools

NAMES = ("keep", "lose", "broke", "w", "r", "a")
BOUNDS = (1000, 1000, 1000, 1000000, 1000000, 100000)
ORDINARY = (800, 100, 50, 200, 100, 700)
HIGHEST = 4294967295

THOUSANDTHS = (0, 1, 333, 500, 999, 1000)
SETTINGS = tuple(itertools.product(THOUSANDTHS, repeat=3))


def with_number(numbers, place, number):
    """The same numbers with one of them replaced."""
    changed = list(numbers)
    changed[place] = number
    return changed


def check_kinds(case, call, numbers, length):
    """The answer is a list of so many whole numbers, none of them True or False."""
    answer = call(*numbers)
    case.assertIs(type(answer), list)
    case.assertEqual([type(number) for number in answer], [int] * length)


def check_second_call(case, call, numbers, answer):
    """A second call answers the same, in a list of its own."""
    first = call(*numbers)
    second = call(*numbers)
    case.assertEqual(first, answer)
    case.assertEqual(second, answer)
    case.assertIsNot(first, second)
    first.append(7)
    first[0] = 8
    case.assertEqual(second, answer)
    case.assertEqual(call(*numbers), answer)
