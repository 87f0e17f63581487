"""Promises 1 and 3, as far as they are a run's. Answers are [sold in all, lost in all, in the water, in the broke]."""

import itertools
import unittest

import loop_numbers
from brokeloop.loop import run, tick
from loop_numbers import HIGHEST, SETTINGS, check_kinds, check_second_call, with_number

NAMES = loop_numbers.NAMES + ("n",)
BOUNDS = loop_numbers.BOUNDS + (1000,)
ORDINARY = loop_numbers.ORDINARY + (2,)
REFUSED = (800, 100, 50, 200, 100, 700, 1001)


def tick_by_tick(keep, lose, broke, w, r, a, n):
    """The answer that n calls of tick, one behind the other, add up to."""
    sold, lost = 0, 0
    for _ in range(n):
        sold_now, lost_now, w, r = tick(keep, lose, broke, w, r, a)
        sold += sold_now
        lost += lost_now
    return [sold, lost, w, r]


class OrdinaryRuns(unittest.TestCase):
    def test_one_tick(self):
        # 1000 together: paper 800, left 200; lost 20, water 180; broke 40, sold 760.
        self.assertEqual(run(800, 100, 50, 200, 100, 700, 1), [760, 20, 180, 40])

    def test_two_ticks(self):
        # Behind [760, 20, 180, 40] there are 700 + 180 + 40 = 920 together: paper 736, left 184;
        # lost 18.4, so 18, water 166; broke 36.8, so 36, sold 700.
        self.assertEqual(run(800, 100, 50, 200, 100, 700, 2), [1460, 38, 166, 36])

    def test_three_ticks(self):
        # Then 700 + 166 + 36 = 902 together: paper 721.6, so 721, left 181;
        # lost 18.1, so 18, water 163; broke 36.05, so 36, sold 685.
        self.assertEqual(run(800, 100, 50, 200, 100, 700, 3), [2145, 56, 163, 36])

    def test_two_ticks_from_an_empty_loop(self):
        # 4000 together: paper 3000, left 1000; lost 200, water 800; broke 300, sold 2700.
        # 5100 together: paper 3825, left 1275; lost 255, water 1020; broke 382.5, so 382, sold 3443.
        self.assertEqual(run(750, 200, 100, 0, 0, 4000, 2), [6143, 455, 1020, 382])

    def test_five_ticks_that_part_by_halves(self):
        # Together 16, 24, 28, 30, 31: sold 4, 6, 7, 8, 8; lost 4, 6, 7, 7, 8;
        # water 4, 6, 7, 8, 8; broke 4, 6, 7, 7, 7.
        self.assertEqual(run(500, 500, 500, 0, 0, 16, 5), [33, 32, 8, 7])

    def test_each_tick_is_rounded_by_itself(self):
        # 1 together is no paper; from then on 2 are 1 of paper, and 1 is left. All 4 in one tick would sell 2.
        self.assertEqual(run(500, 0, 0, 0, 0, 1, 4), [3, 0, 1, 0])

    def test_water_and_broke_count_alike(self):
        for w, r in ((300, 0), (0, 300), (1, 299)):
            with self.subTest(w=w, r=r):
                self.assertEqual(run(800, 100, 50, w, r, 700, 3), [2145, 56, 163, 36])

    def test_arguments_by_their_names(self):
        answer = run(n=2, a=700, r=100, w=200, broke=50, lose=100, keep=800)
        self.assertEqual(answer, [1460, 38, 166, 36])


class NoTickAndOne(unittest.TestCase):
    def test_no_tick_leaves_the_loop_as_it_was_handed_in(self):
        for setting in ((800, 100, 50), (0, 0, 0), (1000, 1000, 1000)):
            for w, r in ((200, 100), (0, 0), (1, 0), (0, 1), (1000000, 999999), (999999, 1000000)):
                for a in (0, 700, 100000):
                    with self.subTest(setting=setting, w=w, r=r, a=a):
                        self.assertEqual(run(*setting, w, r, a, 0), [0, 0, w, r])

    def test_one_tick_is_a_tick(self):
        for setting in SETTINGS:
            for w, r, a in ((0, 0, 0), (20, 11, 70), (1000000, 999999, 100000), (1000000, 1000000, 100000)):
                with self.subTest(setting=setting, w=w, r=r, a=a):
                    self.assertEqual(run(*setting, w, r, a, 1), tick(*setting, w, r, a))


class RunsAgainstTicks(unittest.TestCase):
    def test_many_loops(self):
        # None of these grows above 1,000,000, where tick would refuse it.
        loops = ((0, 0, 1), (7, 0, 0), (0, 13, 5), (20, 11, 70), (123456, 65432, 9999))
        for setting in SETTINGS:
            for w, r, a in loops:
                for n in (0, 1, 2, 3, 7, 40):
                    with self.subTest(setting=setting, w=w, r=r, a=a, n=n):
                        numbers = setting + (w, r, a, n)
                        self.assertEqual(run(*numbers), tick_by_tick(*numbers))

    def test_full_loops(self):
        for setting in ((800, 100, 50), (500, 500, 500), (333, 667, 91), (999, 1, 399)):
            for n in (2, 10, 1000):
                with self.subTest(setting=setting, n=n):
                    numbers = setting + (999999, 1000000, 100000, n)
                    self.assertEqual(run(*numbers), tick_by_tick(*numbers))


class Corners(unittest.TestCase):
    def test_nothing_kept(self):
        # 1000: lost 100, water 900. 1600: lost 160, water 1440. 2140: lost 214, water 1926.
        self.assertEqual(run(0, 100, 50, 200, 100, 700, 3), [0, 474, 1926, 0])

    def test_all_kept(self):
        # 1000: broke 50, sold 950. 750: broke 37.5, so 37, sold 713. 737: broke 36.85, so 36, sold 701.
        self.assertEqual(run(1000, 100, 50, 200, 100, 700, 3), [2364, 0, 0, 36])

    def test_nothing_lost(self):
        # 1000: [760, 0, 200, 40]. 940: paper 752, water 188; broke 37.6, so 37, sold 715.
        self.assertEqual(run(800, 0, 50, 200, 100, 700, 2), [1475, 0, 188, 37])

    def test_all_that_is_left_is_lost(self):
        # 1000: [760, 200, 0, 40]. 740: paper 592, lost 148; broke 29.6, so 29, sold 563.
        self.assertEqual(run(800, 1000, 50, 200, 100, 700, 2), [1323, 348, 0, 29])

    def test_nothing_broke(self):
        # 1000: [800, 20, 180, 0]. 880: paper 704, left 176; lost 17.6, so 17, water 159.
        self.assertEqual(run(800, 100, 0, 200, 100, 700, 2), [1504, 37, 159, 0])

    def test_all_broke(self):
        # 1000: [0, 20, 180, 800]. 1680: paper 1344, left 336; lost 33.6, so 33, water 303.
        self.assertEqual(run(800, 100, 1000, 200, 100, 700, 2), [0, 53, 303, 1344])

    def test_nothing_set(self):
        self.assertEqual(run(0, 0, 0, 200, 100, 700, 3), [0, 0, 2400, 0])
        self.assertEqual(run(0, 0, 0, 0, 0, 0, 0), [0, 0, 0, 0])

    def test_nothing_fed(self):
        # 300: [228, 6, 54, 12]. 66: paper 52, left 14; lost 1, water 13; broke 2, sold 50.
        # 15: paper 12, left 3; lost 0, water 3; broke 0, sold 12. 3: paper 2, water 1, sold 2.
        # 1: no paper, nothing lost, water 1; so it stays.
        cases = (
            (1, [228, 6, 54, 12]),
            (2, [278, 7, 13, 2]),
            (3, [290, 7, 3, 0]),
            (4, [292, 7, 1, 0]),
            (5, [292, 7, 1, 0]),
            (1000, [292, 7, 1, 0]),
        )
        for n, answer in cases:
            with self.subTest(n=n):
                self.assertEqual(run(800, 100, 50, 200, 100, 0, n), answer)

    def test_nothing_fed_to_an_empty_loop(self):
        for n in (0, 1, 2, 1000):
            with self.subTest(n=n):
                self.assertEqual(run(800, 100, 50, 0, 0, 0, n), [0, 0, 0, 0])

    def test_one_kilogram_in_the_loop(self):
        cases = (
            ((999, 999, 999), [0, 0, 1, 0]),
            ((999, 1000, 999), [0, 1, 0, 0]),
            ((0, 0, 1000), [0, 0, 1, 0]),
            ((1000, 1000, 999), [1, 0, 0, 0]),
            ((1000, 0, 1000), [0, 0, 0, 1]),
        )
        for setting, answer in cases:
            for w, r in ((1, 0), (0, 1)):
                for n in (1, 2, 1000):
                    with self.subTest(setting=setting, w=w, r=r, n=n):
                        self.assertEqual(run(*setting, w, r, 0, n), answer)

    def test_one_kilogram_fed_at_each_of_a_thousand_ticks(self):
        cases = (
            ((0, 0, 0), [0, 0, 1000, 0]),
            # Nothing is lost of less than 1000; of the 1000 at the last tick 1 is lost.
            ((0, 1, 0), [0, 1, 999, 0]),
            ((0, 1000, 0), [0, 1000, 0, 0]),
            ((1000, 0, 999), [1000, 0, 0, 0]),
            ((1000, 0, 1000), [0, 0, 0, 1000]),
            ((500, 0, 0), [999, 0, 1, 0]),
        )
        for setting, answer in cases:
            with self.subTest(setting=setting):
                self.assertEqual(run(*setting, 0, 0, 1, 1000), answer)

    def test_a_thousand_ticks(self):
        # As the five ticks that part by halves; each of the 995 behind them has 31 together, sells 8 and loses 8.
        self.assertEqual(run(500, 500, 500, 0, 0, 16, 1000), [7993, 7992, 8, 7])


class AboveTheBound(unittest.TestCase):
    def check(self, setting, cases):
        for n, answer in cases:
            with self.subTest(n=n):
                self.assertEqual(run(*setting, 1000000, 1000000, 100000, n), answer)

    def test_water(self):
        self.check((0, 0, 0), (
            (1, [0, 0, 2100000, 0]),
            (2, [0, 0, 2200000, 0]),
            (1000, [0, 0, 102000000, 0]),
        ))

    def test_broke(self):
        self.check((1000, 0, 1000), (
            (1, [0, 0, 0, 2100000]),
            (2, [0, 0, 0, 2200000]),
            (1000, [0, 0, 0, 102000000]),
        ))

    def test_sold_in_all(self):
        self.check((1000, 0, 0), ((1, [2100000, 0, 0, 0]), (1000, [102000000, 0, 0, 0])))

    def test_lost_in_all(self):
        self.check((0, 1000, 0), ((1, [0, 2100000, 0, 0]), (1000, [0, 102000000, 0, 0])))

    def test_water_above_it_goes_on_as_it_is(self):
        # 2100000: paper and water 1050000; broke and sold 525000.
        # 1675000: paper and water 837500; broke and sold 418750.
        # 1356250: paper and water 678125; broke 339062.5, so 339062, sold 339063.
        self.check((500, 0, 500), (
            (1, [525000, 0, 1050000, 525000]),
            (2, [943750, 0, 837500, 418750]),
            (3, [1282813, 0, 678125, 339062]),
        ))

    def test_broke_above_it_goes_on_as_it_is(self):
        # 2100000: paper 1890000, left 210000; lost and water 105000; broke 1701000, sold 189000.
        # 1906000: paper 1715400, left 190600; lost and water 95300; broke 1543860, sold 171540.
        self.check((900, 500, 900), (
            (1, [189000, 105000, 105000, 1701000]),
            (2, [360540, 200300, 95300, 1543860]),
        ))

    def test_one_kilogram_above_it(self):
        self.assertEqual(run(0, 0, 0, 1000000, 0, 1, 1), [0, 0, 1000001, 0])
        self.assertEqual(run(0, 0, 0, 1000000, 0, 1, 2), [0, 0, 1000002, 0])
        self.assertEqual(run(1000, 0, 1000, 0, 1000000, 1, 1), [0, 0, 0, 1000001])
        self.assertEqual(run(1000, 0, 1000, 0, 1000000, 1, 2), [0, 0, 0, 1000002])


class Edges(unittest.TestCase):
    def check(self, place, cases):
        for number, answer in cases:
            with self.subTest(name=NAMES[place], number=number):
                self.assertEqual(run(*with_number(ORDINARY, place, number)), answer)

    def test_keep(self):
        # Nothing kept and all kept, as in the corners, behind two ticks.
        self.check(0, ((0, [0, 260, 1440, 0]), (1000, [1663, 0, 0, 37]), (1001, [-22])))

    def test_lose(self):
        self.check(1, ((0, [1475, 0, 188, 37]), (1000, [1323, 348, 0, 29]), (1001, [-22])))

    def test_broke(self):
        self.check(2, ((0, [1504, 37, 159, 0]), (1000, [0, 53, 303, 1344]), (1001, [-22])))

    def test_water(self):
        # 800: [608, 16, 144, 32]. 876: paper 700, left 176; lost 17, water 159; broke 35, sold 665.
        # 1000800: [760608, 20016, 180144, 40032].
        # 220876: paper 176700, left 44176; lost 4417, water 39759; broke 8835, sold 167865.
        self.check(3, (
            (0, [1273, 33, 159, 35]),
            (1000000, [928473, 24433, 39759, 8835]),
            (1000001, [-22]),
        ))

    def test_broke_in_the_loop(self):
        # 900: [684, 18, 162, 36]. 898: paper 718, left 180; lost 18, water 162; broke 35, sold 683.
        # 1000900: [760684, 20018, 180162, 40036].
        # 220898: paper 176718, left 44180; lost 4418, water 39762; broke 8835, sold 167883.
        self.check(4, (
            (0, [1367, 36, 162, 35]),
            (1000000, [928567, 24436, 39762, 8835]),
            (1000001, [-22]),
        ))

    def test_fed(self):
        # 100300: [76228, 2006, 18054, 4012].
        # 122066: paper 97652, left 24414; lost 2441, water 21973; broke 4882, sold 92770.
        self.check(5, (
            (0, [278, 7, 13, 2]),
            (100000, [168998, 4447, 21973, 4882]),
            (100001, [-22]),
        ))

    def test_ticks(self):
        # Behind the third tick, [2145, 56, 163, 36]:
        # 899: paper 719, left 180; lost 18, water 162; broke 35, sold 684.
        # 897: paper 717, left 180; lost 18, water 162; broke 35, sold 682; so it stays.
        self.check(6, (
            (0, [0, 0, 200, 100]),
            (4, [2829, 74, 162, 35]),
            (5, [3511, 92, 162, 35]),
            (1000, [3511 + 995 * 682, 92 + 995 * 18, 162, 35]),
            (1001, [-22]),
        ))

    def test_all_at_their_bounds(self):
        self.assertEqual(run(*BOUNDS), [0, 0, 0, 102000000])


class WrongInputs(unittest.TestCase):
    # No subTest here: each test is to end at its first wrong answer, since a run of 4294967295 ticks would not end.

    def check_refused(self, numbers):
        self.assertEqual(run(*numbers), [-22], numbers)

    def test_each_above_its_bound_alone(self):
        for base in (ORDINARY, (0, 0, 0, 0, 0, 0, 0), BOUNDS):
            for place, bound in enumerate(BOUNDS):
                for number in (bound + 1, bound * 2, 2147483648, HIGHEST):
                    self.check_refused(with_number(base, place, number))

    def test_one_above_its_bound_with_no_tick(self):
        for place in range(6):
            self.check_refused(with_number(with_number(ORDINARY, 6, 0), place, BOUNDS[place] + 1))

    def test_several_above_their_bounds(self):
        for first, second in itertools.combinations(range(len(BOUNDS)), 2):
            for one, other in ((BOUNDS[first] + 1, HIGHEST), (HIGHEST, BOUNDS[second] + 1)):
                self.check_refused(with_number(with_number(ORDINARY, first, one), second, other))

    def test_all_above_their_bounds(self):
        self.check_refused([bound + 1 for bound in BOUNDS])
        self.check_refused([HIGHEST] * 7)


class WhatHolds(unittest.TestCase):
    LOOPS = ((0, 0, 1), (0, 0, 777), (20, 11, 70), (1000000, 999999, 100000))

    def test_what_is_fed_and_was_in_the_loop_is_sold_lost_or_in_the_loop(self):
        for setting in SETTINGS:
            for w, r, a in self.LOOPS:
                for n in (0, 1, 2, 5, 33):
                    with self.subTest(setting=setting, w=w, r=r, a=a, n=n):
                        answer = run(*setting, w, r, a, n)
                        self.assertEqual(sum(answer), w + r + a * n)
                        self.assertGreaterEqual(min(answer), 0)

    def test_it_holds_behind_a_thousand_ticks(self):
        for setting in ((800, 100, 50), (333, 333, 333), (1, 1, 1), (999, 999, 999), (0, 0, 0), (1000, 0, 1000)):
            for w, r, a in self.LOOPS:
                with self.subTest(setting=setting, w=w, r=r, a=a):
                    self.assertEqual(sum(run(*setting, w, r, a, 1000)), w + r + a * 1000)

    def test_more_fed_no_less_sold(self):
        for setting in SETTINGS:
            with self.subTest(setting=setting):
                sold = [run(*setting, 20, 11, a, 5)[0] for a in range(30)]
                self.assertEqual(sold, sorted(sold))

    def test_from_an_empty_loop_on_never_less_in_it_than_before(self):
        for setting in SETTINGS:
            with self.subTest(setting=setting):
                inside = [sum(run(*setting, 0, 0, 777, n)[2:]) for n in range(30)]
                self.assertEqual(inside, sorted(inside))


class Answers(unittest.TestCase):
    def test_a_list_of_whole_numbers(self):
        cases = ((ORDINARY, 4), ((0, 0, 0, 0, 0, 0, 0), 4), ((1000, 1000, 1000, 1, 1, 1, 1000), 4), (REFUSED, 1))
        for numbers, length in cases:
            with self.subTest(numbers=numbers):
                check_kinds(self, run, numbers, length)

    def test_a_second_call_gives_the_same_in_a_list_of_its_own(self):
        cases = (
            (ORDINARY, [1460, 38, 166, 36]),
            ((800, 100, 50, 200, 100, 700, 0), [0, 0, 200, 100]),
            (REFUSED, [-22]),
        )
        for numbers, answer in cases:
            with self.subTest(numbers=numbers):
                check_second_call(self, run, numbers, answer)

    def test_a_call_between_changes_nothing(self):
        self.assertEqual(run(*ORDINARY), [1460, 38, 166, 36])
        self.assertEqual(run(500, 500, 500, 0, 0, 16, 5), [33, 32, 8, 7])
        self.assertEqual(tick(333, 333, 333, 20, 11, 70), [23, 22, 46, 10])
        self.assertEqual(run(*REFUSED), [-22])
        self.assertEqual(run(*ORDINARY), [1460, 38, 166, 36])


if __name__ == "__main__":
    unittest.main()
