"""Promises 1 to 3, as far as they are steady's.

Answers are [behind how many ticks, in the water, in the broke, sold at each tick, lost at each tick].
"""

import itertools
import unittest

from brokeloop.loop import run, steady, tick
from loop_numbers import HIGHEST, SETTINGS, check_kinds, check_second_call, with_number

NAMES = ("keep", "lose", "broke", "a")
BOUNDS = (1000, 1000, 1000, 100000)
ORDINARY = (800, 100, 50, 700)
NEVER_STEADY = (1000, 0, 1000, 700)
REFUSED = (800, 100, 1001, 700)

# Steady behind 998 and 999 ticks; the tests of the edge tell why.
BEHIND_998 = ((500, 2, 1000, 1), (500, 3, 1000, 2), (250, 2, 997, 3), (985, 16, 998, 10))
BEHIND_999 = ((0, 1, 0, 1), (1000, 0, 999, 2), (1, 0, 0, 1), (1, 4, 350, 50), (1, 12, 950, 100000))


def loops_by_runs(keep, lose, broke, a, most):
    """What's in the water and in the broke behind 0 to so many ticks from an empty loop on, by a run for each."""
    return [run(keep, lose, broke, 0, 0, a, n)[2:] for n in range(most + 1)]


def ticks_by_single_runs(keep, lose, broke, a):
    """Behind how many runs of one tick each the loop is first the same behind one more; None if not behind 0 to 999."""
    w, r = 0, 0
    for ticks in range(1000):
        sold, lost, new_w, new_r = run(keep, lose, broke, w, r, a, 1)
        if (new_w, new_r) == (w, r):
            return [ticks, w, r, sold, lost]
        w, r = new_w, new_r
    return None


class OrdinaryLoops(unittest.TestCase):
    def test_steady_behind_one_tick(self):
        # 20 together: paper 3, left 17; lost 15.3, so 15, water 2; broke 1.8, so 1, sold 2.
        # 23: paper 3.45, so 3, left 20; lost 18, water 2; broke 1, sold 2.
        self.assertEqual(steady(150, 900, 600, 20), [1, 2, 1, 2, 18])
        # 10: paper 2.5, so 2, left 8; lost 6.8, so 6, water 2; broke 1, sold 1.
        # 13: paper 3.25, so 3, left 10; lost 8.5, so 8, water 2; broke 1.5, so 1, sold 2.
        self.assertEqual(steady(250, 850, 500, 10), [1, 2, 1, 2, 8])

    def test_steady_behind_two_ticks(self):
        # 40: paper 4, left 36; lost 30.6, so 30, water 6; broke 2, sold 2.
        # 48: paper 4.8, so 4, left 44; lost 37.4, so 37, water 7; broke 2, sold 2.
        # 49: paper 4.9, so 4, left 45; lost 38.25, so 38, water 7; broke 2, sold 2.
        self.assertEqual(steady(100, 850, 500, 40), [2, 7, 2, 2, 38])
        # 120: paper 12, left 108; lost 97.2, so 97, water 11; broke 1.2, so 1, sold 11.
        # 132: paper 13.2, so 13, left 119; lost 107.1, so 107, water 12; broke 1.3, so 1, sold 12.
        # 133: paper 13.3, so 13, left 120; lost 108, water 12; broke 1.3, so 1, sold 12.
        self.assertEqual(steady(100, 900, 100, 120), [2, 12, 1, 12, 108])

    def test_steady_behind_three_ticks(self):
        # 3: paper 1, left 2; lost 1, water 1; no broke, sold 1. 4: paper 2, left 2; lost 1, water 1; broke 1, sold 1.
        # 5: paper 2, left 3; lost 1, water 2; broke 1, sold 1. 6: paper 3, left 3; lost 1, water 2; broke 1, sold 2.
        self.assertEqual(steady(500, 500, 500, 3), [3, 2, 1, 2, 1])

    def test_steady_behind_four_ticks(self):
        # 700: paper 560, left 140; lost 14, water 126; broke 28, sold 532.
        # 854: paper 683, left 171; lost 17, water 154; broke 34, sold 649.
        # 888: paper 710, left 178; lost 17, water 161; broke 35, sold 675.
        # 896: paper 716, left 180; lost 18, water 162; broke 35, sold 681.
        # 897: paper 717, left 180; lost 18, water 162; broke 35, sold 682.
        self.assertEqual(steady(800, 100, 50, 700), [4, 162, 35, 682, 18])

    def test_steady_behind_four_ticks_by_halves(self):
        # Together 16, 24, 28, 30, 31: sold 4, 6, 7, 8, 8; lost 4, 6, 7, 7, 8;
        # water 4, 6, 7, 8, 8; broke 4, 6, 7, 7, 7.
        self.assertEqual(steady(500, 500, 500, 16), [4, 8, 7, 8, 8])

    def test_steady_behind_six_ticks(self):
        # 4000: paper 3000, left 1000; lost 200, water 800; broke 300, sold 2700.
        # 5100: paper 3825, left 1275; lost 255, water 1020; broke 382, sold 3443.
        # 5402: paper 4051, left 1351; lost 270, water 1081; broke 405, sold 3646.
        # 5486: paper 4114, left 1372; lost 274, water 1098; broke 411, sold 3703.
        # 5509: paper 4131, left 1378; lost 275, water 1103; broke 413, sold 3718.
        # 5516: paper 4137, left 1379; lost 275, water 1104; broke 413, sold 3724.
        # 5517: paper 4137, left 1380; lost 276, water 1104; broke 413, sold 3724.
        self.assertEqual(steady(750, 200, 100, 4000), [6, 1104, 413, 3724, 276])

    def test_steady_behind_seven_ticks(self):
        # 5000: paper 3000, left 2000; lost 600, water 1400; broke 300, sold 2700.
        # 6700: paper 4020, left 2680; lost 804, water 1876; broke 402, sold 3618.
        # 7278: paper 4366, left 2912; lost 873, water 2039; broke 436, sold 3930.
        # 7475: paper 4485, left 2990; lost 897, water 2093; broke 448, sold 4037.
        # 7541: paper 4524, left 3017; lost 905, water 2112; broke 452, sold 4072.
        # 7564: paper 4538, left 3026; lost 907, water 2119; broke 453, sold 4085.
        # 7572: paper 4543, left 3029; lost 908, water 2121; broke 454, sold 4089.
        # 7575: paper 4545, left 3030; lost 909, water 2121; broke 454, sold 4091.
        self.assertEqual(steady(600, 300, 100, 5000), [7, 2121, 454, 4091, 909])

    def test_the_same_water_alone_is_not_steady(self):
        # All is kept, so that there's never fibre in the water. 8: broke 4. 12: broke 6. 14: broke 7, sold 7.
        # 15: broke 7.5, so 7, sold 8.
        self.assertEqual(steady(1000, 0, 500, 8), [3, 0, 7, 8, 0])

    def test_the_same_broke_alone_is_not_steady(self):
        # Nothing is broke, so that there's never fibre in it. 8: lost 4, water 4. 12: lost 6, water 6.
        # 14: lost 7, water 7. 15: lost 7.5, so 7, water 8. 16: lost 8, water 8.
        self.assertEqual(steady(0, 500, 0, 8), [4, 8, 0, 0, 8])

    def test_arguments_by_their_names(self):
        self.assertEqual(steady(a=700, broke=50, lose=100, keep=800), [4, 162, 35, 682, 18])


class SteadyAtOnce(unittest.TestCase):
    def test_nothing_fed(self):
        for setting in SETTINGS:
            with self.subTest(setting=setting):
                self.assertEqual(steady(*setting, 0), [0, 0, 0, 0, 0])

    def test_all_that_is_fed_is_sold(self):
        for lose in (0, 500, 1000):
            for a in (1, 700, 100000):
                with self.subTest(lose=lose, a=a):
                    self.assertEqual(steady(1000, lose, 0, a), [0, 0, 0, a, 0])

    def test_all_that_is_fed_is_lost(self):
        for broke in (0, 500, 1000):
            for a in (1, 700, 100000):
                with self.subTest(broke=broke, a=a):
                    self.assertEqual(steady(0, 1000, broke, a), [0, 0, 0, 0, a])

    def test_all_that_is_fed_is_sold_and_lost(self):
        # Of 701 the paper is 210.3, so 210.
        cases = (
            (500, 100000, [0, 0, 0, 50000, 50000]),
            (300, 700, [0, 0, 0, 210, 490]),
            (300, 701, [0, 0, 0, 210, 491]),
        )
        for keep, a, answer in cases:
            with self.subTest(keep=keep, a=a):
                self.assertEqual(steady(keep, 1000, 0, a), answer)

    def test_broke_that_is_rounded_down_to_nothing(self):
        # 1000 together: paper 999, left and lost 1; broke 0.999, so nothing.
        self.assertEqual(steady(999, 1000, 1, 1000), [0, 0, 0, 999, 1])
        # One more kept: paper 1000, of which 1 is broke; 1001: paper 1001, broke 1.001, so 1.
        self.assertEqual(steady(1000, 1000, 1, 1000), [1, 0, 1, 1000, 0])


class SteadyLate(unittest.TestCase):
    def test_one_kilogram_more_at_each_tick(self):
        # Nothing is lost ahead of the tick at which so many are together that their thousandths make a kilogram.
        cases = (
            ((0, 10, 0, 1), [99, 99, 0, 0, 1]),
            ((0, 2, 0, 1), [499, 499, 0, 0, 1]),
            # The same with what's kept: nothing is sold ahead of it.
            ((10, 0, 0, 1), [99, 99, 0, 1, 0]),
            # All kept, of 2 fed 1 is sold up to 500 together; of 501 the broke is 499.998, so 499, and 2 are sold.
            ((1000, 0, 998, 2), [499, 0, 499, 2, 0]),
        )
        for numbers, answer in cases:
            with self.subTest(numbers=numbers):
                self.assertEqual(steady(*numbers), answer)

    def test_lost_is_what_is_fed_once_so_much_is_together(self):
        # A tenth of what's together is lost: 700 of 7000. With d less than 7000 together, a tick on it's d - d / 10,
        # that tenth rounded up; from 6300, at the first tick, on it takes 67 ticks until d is 0.
        self.assertEqual(steady(0, 100, 50, 700), [67, 6300, 0, 0, 700])

    def test_water_above_what_may_be_handed_in(self):
        # A twentieth is lost: 100000 of 2000000.
        self.assertEqual(steady(0, 50, 0, 100000), [235, 1900000, 0, 0, 100000])

    def test_broke_above_what_may_be_handed_in(self):
        # What's sold is a twentieth, rounded up: 100000 of 1999981, of which 1899981.95, so 1899981, are broke.
        self.assertEqual(steady(1000, 0, 950, 100000), [235, 0, 1899981, 100000, 0])

    def test_all_broke(self):
        # 700 are lost of 7000 left: of 34996 the paper is 27996.8, so 27996, and all of it is broke.
        self.assertEqual(steady(800, 100, 1000, 700), [353, 6300, 27996, 0, 700])


class TheEdge(unittest.TestCase):
    """Steady behind 999 ticks is answered, behind 1,000 is not."""

    def test_behind_998_ticks(self):
        # All broke: 1 is lost once 500 are left, of 999 together; till then there's 1 more at each tick.
        self.assertEqual(steady(500, 2, 1000, 1), [998, 499, 499, 0, 1])
        for numbers in BEHIND_998:
            with self.subTest(numbers=numbers):
                self.assertEqual(steady(*numbers)[0], 998)

    def test_behind_999_ticks(self):
        cases = (
            # 1 is lost once 1000 are together.
            ((0, 1, 0, 1), [999, 999, 0, 0, 1]),
            # 1 is sold once 1000 are together.
            ((1, 0, 0, 1), [999, 999, 0, 1, 0]),
            # 1 is sold up to 1000 together; of 1001 the broke is 999.999, so 999, and 2 are sold.
            ((1000, 0, 999, 2), [999, 0, 999, 2, 0]),
        )
        for numbers, answer in cases:
            with self.subTest(numbers=numbers):
                self.assertEqual(steady(*numbers), answer)
        for numbers in BEHIND_999:
            with self.subTest(numbers=numbers):
                self.assertEqual(steady(*numbers)[0], 999)

    def test_behind_a_thousand_ticks_and_a_few_more(self):
        cases = (
            # All broke: 1 is lost once 1000 are left; for each thousandth that's kept 1 more is to be together.
            (1000, (1, 1, 1000, 1)),
            (1001, (2, 1, 1000, 1)),
            (1002, (3, 1, 1000, 1)),
            (1003, (4, 1, 1000, 1)),
            # 2 are sold once there's 1001 of paper: of 1003 together, 1004 and 1005.
            (1001, (999, 0, 999, 2)),
            (1002, (998, 0, 999, 2)),
            (1003, (997, 0, 999, 2)),
        )
        for ticks, numbers in cases:
            with self.subTest(numbers=numbers):
                self.assertEqual(steady(*numbers), [-33])
                keep, lose, broke, a = numbers
                later = run(keep, lose, broke, 0, 0, a, 1000)[2:]
                for _ in range(ticks - 1000):
                    behind = tick(keep, lose, broke, *later, a)[2:]
                    self.assertNotEqual(behind, later)
                    later = behind
                self.assertEqual(tick(keep, lose, broke, *later, a)[2:], later)

    def test_never(self):
        # Nothing kept and nothing lost, all kept and all broke, nothing lost and all broke.
        settings = ((0, 0, 0), (0, 0, 500), (0, 0, 1000), (1000, 0, 1000), (1000, 500, 1000), (1000, 1000, 1000),
                    (500, 0, 1000), (1, 0, 1000), (999, 0, 1000))
        for setting in settings:
            for a in (1, 2, 700, 99999, 100000):
                with self.subTest(setting=setting, a=a):
                    self.assertEqual(steady(*setting, a), [-33])


class AgainstRuns(unittest.TestCase):
    def check_at_each_number_of_ticks(self, numbers):
        answer = steady(*numbers)
        if answer == [-33]:
            loops = loops_by_runs(*numbers, 1000)
            same = [n for n in range(1000) if loops[n] == loops[n + 1]]
            self.assertEqual(same, [])
            return
        ticks, w, r, sold, lost = answer
        loops = loops_by_runs(*numbers, ticks + 1)
        self.assertEqual(loops[ticks], [w, r])
        same = [n for n in range(ticks + 1) if loops[n] == loops[n + 1]]
        self.assertEqual(same, [ticks])
        keep, lose, broke, a = numbers
        before = run(keep, lose, broke, 0, 0, a, ticks)
        behind = run(keep, lose, broke, 0, 0, a, ticks + 1)
        self.assertEqual([sold, lost], [behind[0] - before[0], behind[1] - before[1]])

    def test_many_loops(self):
        share = (100, 250, 500, 733, 900)
        for setting in itertools.product((0, *share, 1000), (0, *share, 1000), share):
            if setting[:2] == (0, 0):
                continue
            for a in (0, 1, 13, 700, 99999):
                with self.subTest(setting=setting, a=a):
                    self.check_at_each_number_of_ticks((*setting, a))

    def test_late_loops(self):
        late = ((0, 2, 0, 1), (1000, 0, 998, 2), (800, 100, 1000, 700), (0, 50, 0, 100000), (1000, 0, 950, 100000))
        for numbers in late + BEHIND_998 + BEHIND_999:
            with self.subTest(numbers=numbers):
                self.check_at_each_number_of_ticks(numbers)

    def test_loops_that_are_not_steady_in_time(self):
        cases = ((0, 0, 0, 1), (1000, 1000, 1000, 100000), (1, 1, 1000, 1), (999, 0, 999, 2), (1, 1, 1, 777))
        for numbers in cases:
            with self.subTest(numbers=numbers):
                self.assertEqual(steady(*numbers), [-33])
                self.check_at_each_number_of_ticks(numbers)

    def test_runs_of_one_tick_each(self):
        for setting in SETTINGS:
            for a in (0, 1, 2, 7, 777):
                with self.subTest(setting=setting, a=a):
                    self.assertEqual(steady(*setting, a), ticks_by_single_runs(*setting, a) or [-33])


class Corners(unittest.TestCase):
    def test_nothing_kept(self):
        # 1000: lost 999, water 1. 1001: lost 999, water 2. 1002: lost 1000, water 2.
        self.assertEqual(steady(0, 999, 50, 1000), [2, 2, 0, 0, 1000])

    def test_all_kept(self):
        # 700: broke 35. 735: broke 36.75, so 36. 736: broke 36.8, so 36, sold 700.
        self.assertEqual(steady(1000, 100, 50, 700), [2, 0, 36, 700, 0])

    def test_nothing_lost(self):
        # 700: water 140, broke 28. 868: paper 694, water 174, broke 34. 908: paper 726, water 182, broke 36.
        # 918: paper 734, water 184, broke 36. 920: paper 736, water 184, broke 36, sold 700.
        self.assertEqual(steady(800, 0, 50, 700), [4, 184, 36, 700, 0])

    def test_all_that_is_left_is_lost(self):
        # 700: paper 560, lost 140, broke 28. 728: paper 582, lost 146, broke 29. 729: paper 583, lost 146, broke 29.
        self.assertEqual(steady(800, 1000, 50, 700), [2, 0, 29, 554, 146])

    def test_nothing_broke(self):
        # 700: paper 560, lost 14, water 126. 826: paper 660, lost 16, water 150. 850: paper 680, lost 17, water 153.
        # 853: paper 682, lost 17, water 154. 854: paper 683, lost 17, water 154.
        self.assertEqual(steady(800, 100, 0, 700), [4, 154, 0, 683, 17])

    def test_all_broke(self):
        # 2 together: paper and left 1, and the 1 of paper is broke. 3: paper 1, left and lost 2.
        self.assertEqual(steady(500, 1000, 1000, 2), [1, 0, 1, 0, 2])

    def test_nothing_fed(self):
        self.assertEqual(steady(800, 100, 50, 0), [0, 0, 0, 0, 0])
        self.assertEqual(steady(0, 0, 0, 0), [0, 0, 0, 0, 0])
        self.assertEqual(steady(1000, 0, 1000, 0), [0, 0, 0, 0, 0])

    def test_one_kilogram(self):
        cases = (
            ((0, 1000, 0), [0, 0, 0, 0, 1]),
            ((1000, 0, 0), [0, 0, 0, 1, 0]),
            ((1000, 0, 999), [0, 0, 0, 1, 0]),
            ((999, 1000, 999), [0, 0, 0, 0, 1]),
            # 1 is no paper, and nothing of it is lost. Of 2 there's 1 of paper, which is sold.
            ((999, 999, 999), [1, 1, 0, 1, 0]),
            ((500, 0, 0), [1, 1, 0, 1, 0]),
            ((0, 0, 0), [-33]),
            ((1000, 0, 1000), [-33]),
        )
        for setting, answer in cases:
            with self.subTest(setting=setting):
                self.assertEqual(steady(*setting, 1), answer)


class Edges(unittest.TestCase):
    def check(self, place, cases):
        for number, answer in cases:
            with self.subTest(name=NAMES[place], number=number):
                self.assertEqual(steady(*with_number(ORDINARY, place, number)), answer)

    def test_keep(self):
        # Nothing kept as among the late ones, all kept as in the corners.
        self.check(0, ((0, [67, 6300, 0, 0, 700]), (1000, [2, 0, 36, 700, 0]), (1001, [-22])))

    def test_lose(self):
        self.check(1, ((0, [4, 184, 36, 700, 0]), (1000, [2, 0, 29, 554, 146]), (1001, [-22])))

    def test_broke(self):
        self.check(2, ((0, [4, 154, 0, 683, 17]), (1000, [353, 6300, 27996, 0, 700]), (1001, [-22])))

    def test_fed(self):
        # 100000: water 18000, broke 4000. 122000: water 21960, broke 4880. 126840: water 22832, broke 5073.
        # 127905: water 23023, broke 5116. 128139: water 23066, broke 5125. 128191: water 23076, broke 5127.
        # 128203: water 23077, broke 5128. 128205: paper 102564, left 25641; lost 2564, water 23077; broke 5128.
        self.check(3, ((0, [0, 0, 0, 0, 0]), (100000, [7, 23077, 5128, 97436, 2564]), (100001, [-22])))

    def test_all_at_their_bounds(self):
        self.assertEqual(steady(*BOUNDS), [-33])


class WrongInputs(unittest.TestCase):
    BASES = (ORDINARY, (0, 0, 0, 0), BOUNDS, NEVER_STEADY, (0, 0, 0, 1))

    def test_each_above_its_bound_alone(self):
        for base in self.BASES:
            for place, bound in enumerate(BOUNDS):
                for number in (bound + 1, bound * 2, 2147483648, HIGHEST):
                    with self.subTest(base=base, name=NAMES[place], number=number):
                        self.assertEqual(steady(*with_number(base, place, number)), [-22])

    def test_several_above_their_bounds(self):
        for base in self.BASES:
            for first, second in itertools.combinations(range(len(BOUNDS)), 2):
                for one, other in ((BOUNDS[first] + 1, HIGHEST), (HIGHEST, BOUNDS[second] + 1)):
                    with self.subTest(base=base, first=NAMES[first], second=NAMES[second]):
                        self.assertEqual(steady(*with_number(with_number(base, first, one), second, other)), [-22])

    def test_all_above_their_bounds(self):
        self.assertEqual(steady(*[bound + 1 for bound in BOUNDS]), [-22])
        self.assertEqual(steady(*[HIGHEST] * 4), [-22])

    def test_refused_also_where_it_would_never_be_steady(self):
        for numbers in ((0, 0, 1001, 700), (1000, 1001, 1000, 700), (0, 0, 0, 100001), (1000, 0, 1000, HIGHEST)):
            with self.subTest(numbers=numbers):
                self.assertEqual(steady(*numbers), [-22])


class WhatHolds(unittest.TestCase):
    def answered(self, fed):
        """Each of many loops that become steady in time, with its answer."""
        found = []
        for setting in SETTINGS:
            for a in fed:
                answer = steady(*setting, a)
                if answer != [-33]:
                    found.append((setting, a, answer))
        self.assertGreater(len(found), len(SETTINGS))
        return found

    def test_steady_what_is_fed_is_sold_or_lost(self):
        for setting, a, answer in self.answered((0, 1, 2, 7, 70, 777, 99999, 100000)):
            with self.subTest(setting=setting, a=a):
                self.assertEqual(answer[3] + answer[4], a)
                self.assertGreaterEqual(min(answer), 0)

    def test_what_is_fed_is_sold_lost_or_in_the_loop(self):
        for setting, a, answer in self.answered((0, 1, 7, 777, 100000)):
            with self.subTest(setting=setting, a=a):
                ticks, w, r = answer[:3]
                behind = run(*setting, 0, 0, a, ticks)
                self.assertEqual(behind[2:], [w, r])
                self.assertEqual(behind[0] + behind[1] + w + r, a * ticks)

    def test_a_tick_leaves_it_as_it_is(self):
        # None of these grows above 1,000,000, where tick would refuse it.
        for setting, a, answer in self.answered((0, 1, 7, 777)):
            with self.subTest(setting=setting, a=a):
                ticks, w, r, sold, lost = answer
                self.assertEqual(tick(*setting, w, r, a), [sold, lost, w, r])
                self.assertEqual(run(*setting, w, r, a, 1000), [sold * 1000, lost * 1000, w, r])

    def test_more_fed_no_less_sold(self):
        for setting in SETTINGS:
            with self.subTest(setting=setting):
                answers = [steady(*setting, a) for a in (*range(20), 777, 1000, 1001, 100000)]
                sold = [answer[3] for answer in answers if answer != [-33]]
                self.assertEqual(sold, sorted(sold))

    def test_from_an_empty_loop_on_never_less_in_it_than_before(self):
        for setting, a, answer in self.answered((1, 777)):
            with self.subTest(setting=setting, a=a):
                ticks = answer[0]
                at = sorted({0, 1, 2, 3, ticks // 2, ticks - 1, ticks} & set(range(ticks + 1)))
                inside = [sum(run(*setting, 0, 0, a, n)[2:]) for n in at]
                self.assertEqual(inside, sorted(inside))
                self.assertEqual(inside[-1], answer[1] + answer[2])


class Answers(unittest.TestCase):
    def test_a_list_of_whole_numbers(self):
        cases = ((ORDINARY, 5), ((0, 0, 0, 0), 5), ((0, 1, 0, 1), 5), (NEVER_STEADY, 1), (REFUSED, 1))
        for numbers, length in cases:
            with self.subTest(numbers=numbers):
                check_kinds(self, steady, numbers, length)

    def test_a_second_call_gives_the_same_in_a_list_of_its_own(self):
        cases = (
            (ORDINARY, [4, 162, 35, 682, 18]),
            ((800, 100, 50, 0), [0, 0, 0, 0, 0]),
            (NEVER_STEADY, [-33]),
            (REFUSED, [-22]),
        )
        for numbers, answer in cases:
            with self.subTest(numbers=numbers):
                check_second_call(self, steady, numbers, answer)

    def test_a_call_between_changes_nothing(self):
        self.assertEqual(steady(*ORDINARY), [4, 162, 35, 682, 18])
        self.assertEqual(tick(800, 100, 50, 200, 100, 700), [760, 20, 180, 40])
        self.assertEqual(steady(*ORDINARY), [4, 162, 35, 682, 18])
        self.assertEqual(run(800, 100, 50, 200, 100, 700, 2), [1460, 38, 166, 36])
        self.assertEqual(steady(*ORDINARY), [4, 162, 35, 682, 18])
        self.assertEqual(steady(500, 500, 500, 16), [4, 8, 7, 8, 8])
        self.assertEqual(steady(*NEVER_STEADY), [-33])
        self.assertEqual(steady(*REFUSED), [-22])
        self.assertEqual(steady(*ORDINARY), [4, 162, 35, 682, 18])
        self.assertEqual(tick(800, 100, 50, 200, 100, 700), [760, 20, 180, 40])
        self.assertEqual(run(800, 100, 50, 200, 100, 700, 2), [1460, 38, 166, 36])


if __name__ == "__main__":
    unittest.main()
